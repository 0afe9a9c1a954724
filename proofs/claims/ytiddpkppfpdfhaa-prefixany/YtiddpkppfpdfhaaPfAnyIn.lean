/- The walk through custkeep.PrefixAny. -/
import Derived.Test.YtiddpkppfpdfhaaPfLives
namespace Go.Proofs.Ytiddpkppfpdfhaa.pf
open Go.ChangeShapes Go.WideShapes Go.ChangeAt Go.RowKit Go.BigFrame
open Go.Proofs.Ytiddpkppfpdfhaa Go.Proofs.Ytiddpkppfpdfhaa.pm Go.Proofs.Ytiddpkppfpdfhaa.boxes Go.Proofs.Ytiddpkppfpdfhaa.rwr Go.Proofs.Ytiddpkppfpdfhaa.rwat
open Go.Proofs.Ytiddpkppfpdfhaa.rws (Knd Own)

set_option maxRecDepth 20000 in
set_option maxHeartbeats 8000000 in
theorem any_walk (v : Value) (ns : List Nd) (a b : Nat) (l k x y : Int) (w : World) (hr : Rd DK w v ns) (ha : a < 4294967296) (hb : b < 4294967296) :
    Calls Try.prog 6 #[.agg (TC v), .agg (NC a l), .agg (NC b k), .int .i64 x, .int .i64 y] w fun e w' => e = .returned (.bool true) ∧ Below w.heap.size w w' := by
  have P1 := fun u hu => put_any v ns a l x u hu ha
  have R1 := fun u hu => rem_any v ns a l u hu
  have R2 := fun u q hu => rem_any q (putL ns a l x) a l u hu
  have P2 := fun u q hu => put_any q (putL ns a l x) b k y u hu hb
  have P3 := fun u hu => put_any v ns b k y u hu hb
  have P4 := fun u q hu => put_any q (putL ns b k y) a l x u hu ha
  have S1 := fun u q hu hv => same_any q v (remL (putL ns a l x) a l) ns u hu hv
  have S2 := fun u q q' hu hv => same_any q q' (putL (putL ns a l x) b k y) (putL (putL ns b k y) a l x) u hu hv
  have HS : Hid (putE ns a l x = 0 → remE (putL ns a l x) a l = 0 ∧ (remE ns a l = 7 → decide (remL (putL ns a l x) a l = ns) = true) ∧ (putE (putL ns a l x) b k y = 0 → putE ns b k y = 0 → ¬ (a = b ∧ l = k) → putE (putL ns b k y) a l x = 0 ∧ decide (putL (putL ns a l x) b k y = putL (putL ns b k y) a l x) = true)) := fun h => by
    obtain ⟨h1, h2, h3⟩ := any_spec (b := b) (k := k) (u := y) ha hb h
    exact ⟨h1, fun e => decide_eq_true (h2 e), fun e1 e2 e3 => ⟨(h3 e1 e2 e3).1, decide_eq_true (h3 e1 e2 e3).2⟩⟩
  clear ha hb
  generalize decide (remL (putL ns a l x) a l = ns) = B1 at *
  generalize decide (putL (putL ns a l x) b k y = putL (putL ns b k y) a l x) = B2 at *
  generalize putL (putL ns a l x) b k y = L4 at *
  generalize putE (putL ns a l x) b k y = E4 at *
  generalize putL (putL ns b k y) a l x = L6 at *
  generalize putE (putL ns b k y) a l x = E6 at *
  generalize remL (putL ns a l x) a l = L3 at *
  generalize remE (putL ns a l x) a l = E3 at *
  generalize putL ns a l x = L1 at *
  generalize putE ns a l x = E1 at *
  generalize putL ns b k y = L5 at *
  generalize putE ns b k y = E5 at *
  generalize remL ns a l = L2 at *
  generalize remE ns a l = E2 at *
  have b0 := (((Below.refl w.heap.size w).alloc (Nat.le_refl _) (.cells (TC v) 24)).alloc (by simp) (.cells (NC a l) 27)).alloc (by simp; omega) (.cells (NC b k) 27)
  have F0 := ((Blk.new w (TC v) 24).alloc (.cells (NC a l) 27)).alloc (.cells (NC b k) 27)
  have F1 := (Blk.newAt (w.alloc (.cells (TC v) 24)) (NC a l) 27 (b := w.heap.size + 1) (by simp)).alloc (.cells (NC b k) 27)
  have F2 := Blk.newAt ((w.alloc (.cells (TC v) 24)).alloc (.cells (NC a l) 27)) (NC b k) 27 (b := w.heap.size + 2) (by simp)
  replace hr := hr.below b0
  obtain ⟨sa, sc, e_v⟩ := hr.form
  generalize hn : ns.length = n at *
  clear hn
  subst e_v
  go_enter Try.func6, Try.ntmps6
  go_upto_region 1 with fail
  generalize hV : ((w.alloc (.cells (TC (.slice sa n sc)) 24)).alloc (.cells (NC a l) 27)).alloc (.cells (NC b k) 27) = V at *
  clear hV
  have C1 := P1 V hr
  have cF0 := F0.cell
  have cF1 := F1.cell
  go_wp2_with fail
  refine C1.mono ?_
  rintro e W1 ⟨v1, rfl, O1, z⟩
  clear cF0 cF1
  replace F0 := F0.below z F0.lt
  replace F1 := F1.below z F1.lt
  replace F2 := F2.below z F2.lt
  replace hr := hr.below z
  replace b0 := b0.trans (z.mono b0.size)
  clear z
  clear C1
  have q1 := Own.rd O1
  clear O1
  obtain ⟨sa1, sc1, e1⟩ := q1.form
  generalize hn1 : L1.length = n1 at *
  clear hn1
  subst e1
  have dA := (Below.refl W1.heap.size W1).alloc (Nat.le_refl _) (.cells Z1 24)
  go_upto_region 2 with (refine blk_store _ rfl 24 _ _ rfl W1.heap.size (TC (.slice sa1 n1 sc1)) rfl rfl _ _ (Blk.new W1 Z1 24) 1 tr_info rfl rfl (tc_one _ _ _) ?_; intro V1 A1 p)
  have zz := p.below dA (Nat.le_refl _)
  clear dA p
  replace F0 := F0.below zz F0.lt
  replace F1 := F1.below zz F1.lt
  replace F2 := F2.below zz F2.lt
  replace hr := hr.below zz
  replace q1 := q1.below zz
  replace b0 := b0.trans (zz.mono b0.size)
  clear zz
  generalize W1.heap.size = xA1 at *
  go_wp2_with fail
  refine (lives _).mono ?_
  rintro e W2 ⟨rfl, z⟩
  replace F0 := F0.below z F0.lt
  replace F1 := F1.below z F1.lt
  replace F2 := F2.below z F2.lt
  replace A1 := A1.below z A1.lt
  replace hr := hr.below z
  replace q1 := q1.below z
  replace b0 := b0.trans (z.mono b0.size)
  clear z
  by_cases h0 : E1 = 0
  · obtain ⟨u1, u2, u3⟩ := HS.out h0
    subst h0
    subst u1
    clear HS
    have C2 := R1 W2 hr
    have cF0 := F0.cell
    have cF1 := F1.cell
    go_wp2_with fail
    refine C2.mono ?_
    rintro e W3 ⟨v2, rfl, O2, z⟩
    clear cF0 cF1
    replace F0 := F0.below z F0.lt
    replace F1 := F1.below z F1.lt
    replace F2 := F2.below z F2.lt
    replace A1 := A1.below z A1.lt
    replace hr := hr.below z
    replace q1 := q1.below z
    replace b0 := b0.trans (z.mono b0.size)
    clear z
    clear C2
    have q2 := Own.rd O2
    clear O2
    obtain ⟨sa2, sc2, e2⟩ := q2.form
    generalize hn2 : L2.length = n2 at *
    clear hn2
    subst e2
    have dA := (Below.refl W3.heap.size W3).alloc (Nat.le_refl _) (.cells Z1 24)
    go_upto_region 5 with (refine blk_store _ rfl 24 _ _ rfl W3.heap.size (TC (.slice sa2 n2 sc2)) rfl rfl _ _ (Blk.new W3 Z1 24) 1 tr_info rfl rfl (tc_one _ _ _) ?_; intro V3 A2 p)
    have zz := p.below dA (Nat.le_refl _)
    clear dA p
    replace F0 := F0.below zz F0.lt
    replace F1 := F1.below zz F1.lt
    replace F2 := F2.below zz F2.lt
    replace A1 := A1.below zz A1.lt
    replace hr := hr.below zz
    replace q1 := q1.below zz
    replace q2 := q2.below zz
    replace b0 := b0.trans (zz.mono b0.size)
    clear zz
    generalize W3.heap.size = xA2 at *
    have C3 := R2 V3 _ q1
    have cA1 := A1.cell
    have cF1 := F1.cell
    go_wp2_with fail
    refine C3.mono ?_
    rintro e W4 ⟨v3, rfl, O3, z⟩
    clear cA1 cF1
    replace F0 := F0.below z F0.lt
    replace F1 := F1.below z F1.lt
    replace F2 := F2.below z F2.lt
    replace A1 := A1.below z A1.lt
    replace A2 := A2.below z A2.lt
    replace hr := hr.below z
    replace q1 := q1.below z
    replace q2 := q2.below z
    replace b0 := b0.trans (z.mono b0.size)
    clear z
    clear C3
    have q3 := Own.rd O3
    clear O3
    obtain ⟨sa3, sc3, e3⟩ := q3.form
    generalize hn3 : L3.length = n3 at *
    clear hn3
    subst e3
    have dA := (Below.refl W4.heap.size W4).alloc (Nat.le_refl _) (.cells Z1 24)
    go_upto_region 6 with (refine blk_store _ rfl 24 _ _ rfl W4.heap.size (TC (.slice sa3 n3 sc3)) rfl rfl _ _ (Blk.new W4 Z1 24) 1 tr_info rfl rfl (tc_one _ _ _) ?_; intro V4 A3 p)
    have zz := p.below dA (Nat.le_refl _)
    clear dA p
    replace F0 := F0.below zz F0.lt
    replace F1 := F1.below zz F1.lt
    replace F2 := F2.below zz F2.lt
    replace A1 := A1.below zz A1.lt
    replace A2 := A2.below zz A2.lt
    replace hr := hr.below zz
    replace q1 := q1.below zz
    replace q2 := q2.below zz
    replace q3 := q3.below zz
    replace b0 := b0.trans (zz.mono b0.size)
    clear zz
    generalize W4.heap.size = xA3 at *
    by_cases h7 : E2 = 7
    · replace u2 := u2 h7
      subst h7
      subst u2
      have C9 := S1 V4 _ q3 hr
      have cA3 := A3.cell
      have cF0 := F0.cell
      go_wp2_with fail
      refine C9.mono ?_
      rintro e W5 ⟨rfl, z⟩
      clear cA3 cF0
      replace F0 := F0.below z F0.lt
      replace F1 := F1.below z F1.lt
      replace F2 := F2.below z F2.lt
      replace A1 := A1.below z A1.lt
      replace A2 := A2.below z A2.lt
      replace A3 := A3.below z A3.lt
      replace hr := hr.below z
      replace q1 := q1.below z
      replace q2 := q2.below z
      replace q3 := q3.below z
      replace b0 := b0.trans (z.mono b0.size)
      clear z
      go_upto_region 8 with fail
      have C4 := P2 W5 _ q1
      have cA1 := A1.cell
      have cF2 := F2.cell
      go_wp2_with fail
      refine C4.mono ?_
      rintro e W6 ⟨v4, rfl, O4, z⟩
      clear cA1 cF2
      replace F0 := F0.below z F0.lt
      replace F1 := F1.below z F1.lt
      replace F2 := F2.below z F2.lt
      replace A1 := A1.below z A1.lt
      replace A2 := A2.below z A2.lt
      replace A3 := A3.below z A3.lt
      replace hr := hr.below z
      replace q1 := q1.below z
      replace q2 := q2.below z
      replace q3 := q3.below z
      replace b0 := b0.trans (z.mono b0.size)
      clear z
      clear C4
      have q4 := Own.rd O4
      clear O4
      obtain ⟨sa4, sc4, e4⟩ := q4.form
      generalize hn4 : L4.length = n4 at *
      clear hn4
      subst e4
      have dA := (Below.refl W6.heap.size W6).alloc (Nat.le_refl _) (.cells Z1 24)
      go_upto_region 9 with (refine blk_store _ rfl 24 _ _ rfl W6.heap.size (TC (.slice sa4 n4 sc4)) rfl rfl _ _ (Blk.new W6 Z1 24) 1 tr_info rfl rfl (tc_one _ _ _) ?_; intro V6 A4 p)
      have zz := p.below dA (Nat.le_refl _)
      clear dA p
      replace F0 := F0.below zz F0.lt
      replace F1 := F1.below zz F1.lt
      replace F2 := F2.below zz F2.lt
      replace A1 := A1.below zz A1.lt
      replace A2 := A2.below zz A2.lt
      replace A3 := A3.below zz A3.lt
      replace hr := hr.below zz
      replace q1 := q1.below zz
      replace q2 := q2.below zz
      replace q3 := q3.below zz
      replace q4 := q4.below zz
      replace b0 := b0.trans (zz.mono b0.size)
      clear zz
      generalize W6.heap.size = xA4 at *
      have C5 := P3 V6 hr
      have cF0 := F0.cell
      have cF2 := F2.cell
      go_wp2_with fail
      refine C5.mono ?_
      rintro e W7 ⟨v5, rfl, O5, z⟩
      clear cF0 cF2
      replace F0 := F0.below z F0.lt
      replace F1 := F1.below z F1.lt
      replace F2 := F2.below z F2.lt
      replace A1 := A1.below z A1.lt
      replace A2 := A2.below z A2.lt
      replace A3 := A3.below z A3.lt
      replace A4 := A4.below z A4.lt
      replace hr := hr.below z
      replace q1 := q1.below z
      replace q2 := q2.below z
      replace q3 := q3.below z
      replace q4 := q4.below z
      replace b0 := b0.trans (z.mono b0.size)
      clear z
      clear C5
      have q5 := Own.rd O5
      clear O5
      obtain ⟨sa5, sc5, e5⟩ := q5.form
      generalize hn5 : L5.length = n5 at *
      clear hn5
      subst e5
      have dA := (Below.refl W7.heap.size W7).alloc (Nat.le_refl _) (.cells Z1 24)
      go_upto_region 10 with (refine blk_store _ rfl 24 _ _ rfl W7.heap.size (TC (.slice sa5 n5 sc5)) rfl rfl _ _ (Blk.new W7 Z1 24) 1 tr_info rfl rfl (tc_one _ _ _) ?_; intro V7 A5 p)
      have zz := p.below dA (Nat.le_refl _)
      clear dA p
      replace F0 := F0.below zz F0.lt
      replace F1 := F1.below zz F1.lt
      replace F2 := F2.below zz F2.lt
      replace A1 := A1.below zz A1.lt
      replace A2 := A2.below zz A2.lt
      replace A3 := A3.below zz A3.lt
      replace A4 := A4.below zz A4.lt
      replace hr := hr.below zz
      replace q1 := q1.below zz
      replace q2 := q2.below zz
      replace q3 := q3.below zz
      replace q4 := q4.below zz
      replace q5 := q5.below zz
      replace b0 := b0.trans (zz.mono b0.size)
      clear zz
      generalize W7.heap.size = xA5 at *
      by_cases h4 : E4 = 0
      · subst h4
        by_cases h5 : E5 = 0
        · subst h5
          by_cases hq : a = b ∧ l = k
          · obtain ⟨rfl, rfl⟩ := hq
            have cF1 := F1.cell
            have cF2 := F2.cell
            go_wp2_with fail
            go_ret
            exact ⟨rfl, b0⟩
          · obtain ⟨g1, g2⟩ := u3 rfl rfl hq
            subst g1
            subst g2
            clear u3
            have hq' : a = b → ¬ l = k := fun e e2 => hq ⟨e, e2⟩
            by_cases hab : a = b
            · subst hab
              have hlk := hq' rfl
              clear hq' hq
              have cF1 := F1.cell
              have cF2 := F2.cell
              go_upto_region 12 with fail
              clear cF1 cF2
              have C6 := P4 V7 _ q5
              have cA5 := A5.cell
              have cF1 := F1.cell
              go_wp2_with fail
              refine C6.mono ?_
              rintro e W8 ⟨v6, rfl, O6, z⟩
              clear cA5 cF1
              replace F0 := F0.below z F0.lt
              replace F1 := F1.below z F1.lt
              replace F2 := F2.below z F2.lt
              replace A1 := A1.below z A1.lt
              replace A2 := A2.below z A2.lt
              replace A3 := A3.below z A3.lt
              replace A4 := A4.below z A4.lt
              replace A5 := A5.below z A5.lt
              replace hr := hr.below z
              replace q1 := q1.below z
              replace q2 := q2.below z
              replace q3 := q3.below z
              replace q4 := q4.below z
              replace q5 := q5.below z
              replace b0 := b0.trans (z.mono b0.size)
              clear z
              clear C6
              have q6 := Own.rd O6
              clear O6
              obtain ⟨sa6, sc6, e6⟩ := q6.form
              generalize hn6 : L6.length = n6 at *
              clear hn6
              subst e6
              have dA := (Below.refl W8.heap.size W8).alloc (Nat.le_refl _) (.cells Z1 24)
              go_upto_region 13 with (refine blk_store _ rfl 24 _ _ rfl W8.heap.size (TC (.slice sa6 n6 sc6)) rfl rfl _ _ (Blk.new W8 Z1 24) 1 tr_info rfl rfl (tc_one _ _ _) ?_; intro V8 A6 p)
              have zz := p.below dA (Nat.le_refl _)
              clear dA p
              replace F0 := F0.below zz F0.lt
              replace F1 := F1.below zz F1.lt
              replace F2 := F2.below zz F2.lt
              replace A1 := A1.below zz A1.lt
              replace A2 := A2.below zz A2.lt
              replace A3 := A3.below zz A3.lt
              replace A4 := A4.below zz A4.lt
              replace A5 := A5.below zz A5.lt
              replace hr := hr.below zz
              replace q1 := q1.below zz
              replace q2 := q2.below zz
              replace q3 := q3.below zz
              replace q4 := q4.below zz
              replace q5 := q5.below zz
              replace q6 := q6.below zz
              replace b0 := b0.trans (zz.mono b0.size)
              clear zz
              generalize W8.heap.size = xA6 at *
              have C7 := S2 V8 _ _ q4 q6
              have cA4 := A4.cell
              have cA6 := A6.cell
              go_wp2_with fail
              refine C7.mono ?_
              rintro e W9 ⟨rfl, z⟩
              clear cA4 cA6
              replace F0 := F0.below z F0.lt
              replace F1 := F1.below z F1.lt
              replace F2 := F2.below z F2.lt
              replace A1 := A1.below z A1.lt
              replace A2 := A2.below z A2.lt
              replace A3 := A3.below z A3.lt
              replace A4 := A4.below z A4.lt
              replace A5 := A5.below z A5.lt
              replace A6 := A6.below z A6.lt
              replace hr := hr.below z
              replace q1 := q1.below z
              replace q2 := q2.below z
              replace q3 := q3.below z
              replace q4 := q4.below z
              replace q5 := q5.below z
              replace q6 := q6.below z
              replace b0 := b0.trans (z.mono b0.size)
              clear z
              go_wp2_with fail
              go_ret
              exact ⟨rfl, b0⟩
            · clear hq' hq
              have cF1 := F1.cell
              have cF2 := F2.cell
              go_upto_region 12 with fail
              clear cF1 cF2
              have C6 := P4 V7 _ q5
              have cA5 := A5.cell
              have cF1 := F1.cell
              go_wp2_with fail
              refine C6.mono ?_
              rintro e W8 ⟨v6, rfl, O6, z⟩
              clear cA5 cF1
              replace F0 := F0.below z F0.lt
              replace F1 := F1.below z F1.lt
              replace F2 := F2.below z F2.lt
              replace A1 := A1.below z A1.lt
              replace A2 := A2.below z A2.lt
              replace A3 := A3.below z A3.lt
              replace A4 := A4.below z A4.lt
              replace A5 := A5.below z A5.lt
              replace hr := hr.below z
              replace q1 := q1.below z
              replace q2 := q2.below z
              replace q3 := q3.below z
              replace q4 := q4.below z
              replace q5 := q5.below z
              replace b0 := b0.trans (z.mono b0.size)
              clear z
              clear C6
              have q6 := Own.rd O6
              clear O6
              obtain ⟨sa6, sc6, e6⟩ := q6.form
              generalize hn6 : L6.length = n6 at *
              clear hn6
              subst e6
              have dA := (Below.refl W8.heap.size W8).alloc (Nat.le_refl _) (.cells Z1 24)
              go_upto_region 13 with (refine blk_store _ rfl 24 _ _ rfl W8.heap.size (TC (.slice sa6 n6 sc6)) rfl rfl _ _ (Blk.new W8 Z1 24) 1 tr_info rfl rfl (tc_one _ _ _) ?_; intro V8 A6 p)
              have zz := p.below dA (Nat.le_refl _)
              clear dA p
              replace F0 := F0.below zz F0.lt
              replace F1 := F1.below zz F1.lt
              replace F2 := F2.below zz F2.lt
              replace A1 := A1.below zz A1.lt
              replace A2 := A2.below zz A2.lt
              replace A3 := A3.below zz A3.lt
              replace A4 := A4.below zz A4.lt
              replace A5 := A5.below zz A5.lt
              replace hr := hr.below zz
              replace q1 := q1.below zz
              replace q2 := q2.below zz
              replace q3 := q3.below zz
              replace q4 := q4.below zz
              replace q5 := q5.below zz
              replace q6 := q6.below zz
              replace b0 := b0.trans (zz.mono b0.size)
              clear zz
              generalize W8.heap.size = xA6 at *
              have C7 := S2 V8 _ _ q4 q6
              have cA4 := A4.cell
              have cA6 := A6.cell
              go_wp2_with fail
              refine C7.mono ?_
              rintro e W9 ⟨rfl, z⟩
              clear cA4 cA6
              replace F0 := F0.below z F0.lt
              replace F1 := F1.below z F1.lt
              replace F2 := F2.below z F2.lt
              replace A1 := A1.below z A1.lt
              replace A2 := A2.below z A2.lt
              replace A3 := A3.below z A3.lt
              replace A4 := A4.below z A4.lt
              replace A5 := A5.below z A5.lt
              replace A6 := A6.below z A6.lt
              replace hr := hr.below z
              replace q1 := q1.below z
              replace q2 := q2.below z
              replace q3 := q3.below z
              replace q4 := q4.below z
              replace q5 := q5.below z
              replace q6 := q6.below z
              replace b0 := b0.trans (z.mono b0.size)
              clear z
              go_wp2_with fail
              go_ret
              exact ⟨rfl, b0⟩
        · have h5' : (E5 != 0) = true := by simpa using h5
          go_wp2_with fail
          go_ret
          exact ⟨rfl, b0⟩
      · have h4' : (E4 != 0) = true := by simpa using h4
        go_wp2_with fail
        go_ret
        exact ⟨rfl, b0⟩
    · have h7' : (E2 == 7) = false := by simpa using h7
      clear u2
      go_upto_region 8 with fail
      have C4 := P2 V4 _ q1
      have cA1 := A1.cell
      have cF2 := F2.cell
      go_wp2_with fail
      refine C4.mono ?_
      rintro e W6 ⟨v4, rfl, O4, z⟩
      clear cA1 cF2
      replace F0 := F0.below z F0.lt
      replace F1 := F1.below z F1.lt
      replace F2 := F2.below z F2.lt
      replace A1 := A1.below z A1.lt
      replace A2 := A2.below z A2.lt
      replace A3 := A3.below z A3.lt
      replace hr := hr.below z
      replace q1 := q1.below z
      replace q2 := q2.below z
      replace q3 := q3.below z
      replace b0 := b0.trans (z.mono b0.size)
      clear z
      clear C4
      have q4 := Own.rd O4
      clear O4
      obtain ⟨sa4, sc4, e4⟩ := q4.form
      generalize hn4 : L4.length = n4 at *
      clear hn4
      subst e4
      have dA := (Below.refl W6.heap.size W6).alloc (Nat.le_refl _) (.cells Z1 24)
      go_upto_region 9 with (refine blk_store _ rfl 24 _ _ rfl W6.heap.size (TC (.slice sa4 n4 sc4)) rfl rfl _ _ (Blk.new W6 Z1 24) 1 tr_info rfl rfl (tc_one _ _ _) ?_; intro V6 A4 p)
      have zz := p.below dA (Nat.le_refl _)
      clear dA p
      replace F0 := F0.below zz F0.lt
      replace F1 := F1.below zz F1.lt
      replace F2 := F2.below zz F2.lt
      replace A1 := A1.below zz A1.lt
      replace A2 := A2.below zz A2.lt
      replace A3 := A3.below zz A3.lt
      replace hr := hr.below zz
      replace q1 := q1.below zz
      replace q2 := q2.below zz
      replace q3 := q3.below zz
      replace q4 := q4.below zz
      replace b0 := b0.trans (zz.mono b0.size)
      clear zz
      generalize W6.heap.size = xA4 at *
      have C5 := P3 V6 hr
      have cF0 := F0.cell
      have cF2 := F2.cell
      go_wp2_with fail
      refine C5.mono ?_
      rintro e W7 ⟨v5, rfl, O5, z⟩
      clear cF0 cF2
      replace F0 := F0.below z F0.lt
      replace F1 := F1.below z F1.lt
      replace F2 := F2.below z F2.lt
      replace A1 := A1.below z A1.lt
      replace A2 := A2.below z A2.lt
      replace A3 := A3.below z A3.lt
      replace A4 := A4.below z A4.lt
      replace hr := hr.below z
      replace q1 := q1.below z
      replace q2 := q2.below z
      replace q3 := q3.below z
      replace q4 := q4.below z
      replace b0 := b0.trans (z.mono b0.size)
      clear z
      clear C5
      have q5 := Own.rd O5
      clear O5
      obtain ⟨sa5, sc5, e5⟩ := q5.form
      generalize hn5 : L5.length = n5 at *
      clear hn5
      subst e5
      have dA := (Below.refl W7.heap.size W7).alloc (Nat.le_refl _) (.cells Z1 24)
      go_upto_region 10 with (refine blk_store _ rfl 24 _ _ rfl W7.heap.size (TC (.slice sa5 n5 sc5)) rfl rfl _ _ (Blk.new W7 Z1 24) 1 tr_info rfl rfl (tc_one _ _ _) ?_; intro V7 A5 p)
      have zz := p.below dA (Nat.le_refl _)
      clear dA p
      replace F0 := F0.below zz F0.lt
      replace F1 := F1.below zz F1.lt
      replace F2 := F2.below zz F2.lt
      replace A1 := A1.below zz A1.lt
      replace A2 := A2.below zz A2.lt
      replace A3 := A3.below zz A3.lt
      replace A4 := A4.below zz A4.lt
      replace hr := hr.below zz
      replace q1 := q1.below zz
      replace q2 := q2.below zz
      replace q3 := q3.below zz
      replace q4 := q4.below zz
      replace q5 := q5.below zz
      replace b0 := b0.trans (zz.mono b0.size)
      clear zz
      generalize W7.heap.size = xA5 at *
      by_cases h4 : E4 = 0
      · subst h4
        by_cases h5 : E5 = 0
        · subst h5
          by_cases hq : a = b ∧ l = k
          · obtain ⟨rfl, rfl⟩ := hq
            have cF1 := F1.cell
            have cF2 := F2.cell
            go_wp2_with fail
            go_ret
            exact ⟨rfl, b0⟩
          · obtain ⟨g1, g2⟩ := u3 rfl rfl hq
            subst g1
            subst g2
            clear u3
            have hq' : a = b → ¬ l = k := fun e e2 => hq ⟨e, e2⟩
            by_cases hab : a = b
            · subst hab
              have hlk := hq' rfl
              clear hq' hq
              have cF1 := F1.cell
              have cF2 := F2.cell
              go_upto_region 12 with fail
              clear cF1 cF2
              have C6 := P4 V7 _ q5
              have cA5 := A5.cell
              have cF1 := F1.cell
              go_wp2_with fail
              refine C6.mono ?_
              rintro e W8 ⟨v6, rfl, O6, z⟩
              clear cA5 cF1
              replace F0 := F0.below z F0.lt
              replace F1 := F1.below z F1.lt
              replace F2 := F2.below z F2.lt
              replace A1 := A1.below z A1.lt
              replace A2 := A2.below z A2.lt
              replace A3 := A3.below z A3.lt
              replace A4 := A4.below z A4.lt
              replace A5 := A5.below z A5.lt
              replace hr := hr.below z
              replace q1 := q1.below z
              replace q2 := q2.below z
              replace q3 := q3.below z
              replace q4 := q4.below z
              replace q5 := q5.below z
              replace b0 := b0.trans (z.mono b0.size)
              clear z
              clear C6
              have q6 := Own.rd O6
              clear O6
              obtain ⟨sa6, sc6, e6⟩ := q6.form
              generalize hn6 : L6.length = n6 at *
              clear hn6
              subst e6
              have dA := (Below.refl W8.heap.size W8).alloc (Nat.le_refl _) (.cells Z1 24)
              go_upto_region 13 with (refine blk_store _ rfl 24 _ _ rfl W8.heap.size (TC (.slice sa6 n6 sc6)) rfl rfl _ _ (Blk.new W8 Z1 24) 1 tr_info rfl rfl (tc_one _ _ _) ?_; intro V8 A6 p)
              have zz := p.below dA (Nat.le_refl _)
              clear dA p
              replace F0 := F0.below zz F0.lt
              replace F1 := F1.below zz F1.lt
              replace F2 := F2.below zz F2.lt
              replace A1 := A1.below zz A1.lt
              replace A2 := A2.below zz A2.lt
              replace A3 := A3.below zz A3.lt
              replace A4 := A4.below zz A4.lt
              replace A5 := A5.below zz A5.lt
              replace hr := hr.below zz
              replace q1 := q1.below zz
              replace q2 := q2.below zz
              replace q3 := q3.below zz
              replace q4 := q4.below zz
              replace q5 := q5.below zz
              replace q6 := q6.below zz
              replace b0 := b0.trans (zz.mono b0.size)
              clear zz
              generalize W8.heap.size = xA6 at *
              have C7 := S2 V8 _ _ q4 q6
              have cA4 := A4.cell
              have cA6 := A6.cell
              go_wp2_with fail
              refine C7.mono ?_
              rintro e W9 ⟨rfl, z⟩
              clear cA4 cA6
              replace F0 := F0.below z F0.lt
              replace F1 := F1.below z F1.lt
              replace F2 := F2.below z F2.lt
              replace A1 := A1.below z A1.lt
              replace A2 := A2.below z A2.lt
              replace A3 := A3.below z A3.lt
              replace A4 := A4.below z A4.lt
              replace A5 := A5.below z A5.lt
              replace A6 := A6.below z A6.lt
              replace hr := hr.below z
              replace q1 := q1.below z
              replace q2 := q2.below z
              replace q3 := q3.below z
              replace q4 := q4.below z
              replace q5 := q5.below z
              replace q6 := q6.below z
              replace b0 := b0.trans (z.mono b0.size)
              clear z
              go_wp2_with fail
              go_ret
              exact ⟨rfl, b0⟩
            · clear hq' hq
              have cF1 := F1.cell
              have cF2 := F2.cell
              go_upto_region 12 with fail
              clear cF1 cF2
              have C6 := P4 V7 _ q5
              have cA5 := A5.cell
              have cF1 := F1.cell
              go_wp2_with fail
              refine C6.mono ?_
              rintro e W8 ⟨v6, rfl, O6, z⟩
              clear cA5 cF1
              replace F0 := F0.below z F0.lt
              replace F1 := F1.below z F1.lt
              replace F2 := F2.below z F2.lt
              replace A1 := A1.below z A1.lt
              replace A2 := A2.below z A2.lt
              replace A3 := A3.below z A3.lt
              replace A4 := A4.below z A4.lt
              replace A5 := A5.below z A5.lt
              replace hr := hr.below z
              replace q1 := q1.below z
              replace q2 := q2.below z
              replace q3 := q3.below z
              replace q4 := q4.below z
              replace q5 := q5.below z
              replace b0 := b0.trans (z.mono b0.size)
              clear z
              clear C6
              have q6 := Own.rd O6
              clear O6
              obtain ⟨sa6, sc6, e6⟩ := q6.form
              generalize hn6 : L6.length = n6 at *
              clear hn6
              subst e6
              have dA := (Below.refl W8.heap.size W8).alloc (Nat.le_refl _) (.cells Z1 24)
              go_upto_region 13 with (refine blk_store _ rfl 24 _ _ rfl W8.heap.size (TC (.slice sa6 n6 sc6)) rfl rfl _ _ (Blk.new W8 Z1 24) 1 tr_info rfl rfl (tc_one _ _ _) ?_; intro V8 A6 p)
              have zz := p.below dA (Nat.le_refl _)
              clear dA p
              replace F0 := F0.below zz F0.lt
              replace F1 := F1.below zz F1.lt
              replace F2 := F2.below zz F2.lt
              replace A1 := A1.below zz A1.lt
              replace A2 := A2.below zz A2.lt
              replace A3 := A3.below zz A3.lt
              replace A4 := A4.below zz A4.lt
              replace A5 := A5.below zz A5.lt
              replace hr := hr.below zz
              replace q1 := q1.below zz
              replace q2 := q2.below zz
              replace q3 := q3.below zz
              replace q4 := q4.below zz
              replace q5 := q5.below zz
              replace q6 := q6.below zz
              replace b0 := b0.trans (zz.mono b0.size)
              clear zz
              generalize W8.heap.size = xA6 at *
              have C7 := S2 V8 _ _ q4 q6
              have cA4 := A4.cell
              have cA6 := A6.cell
              go_wp2_with fail
              refine C7.mono ?_
              rintro e W9 ⟨rfl, z⟩
              clear cA4 cA6
              replace F0 := F0.below z F0.lt
              replace F1 := F1.below z F1.lt
              replace F2 := F2.below z F2.lt
              replace A1 := A1.below z A1.lt
              replace A2 := A2.below z A2.lt
              replace A3 := A3.below z A3.lt
              replace A4 := A4.below z A4.lt
              replace A5 := A5.below z A5.lt
              replace A6 := A6.below z A6.lt
              replace hr := hr.below z
              replace q1 := q1.below z
              replace q2 := q2.below z
              replace q3 := q3.below z
              replace q4 := q4.below z
              replace q5 := q5.below z
              replace q6 := q6.below z
              replace b0 := b0.trans (z.mono b0.size)
              clear z
              go_wp2_with fail
              go_ret
              exact ⟨rfl, b0⟩
        · have h5' : (E5 != 0) = true := by simpa using h5
          go_wp2_with fail
          go_ret
          exact ⟨rfl, b0⟩
      · have h4' : (E4 != 0) = true := by simpa using h4
        go_wp2_with fail
        go_ret
        exact ⟨rfl, b0⟩
  · have h0' : (E1 != 0) = true := by simpa using h0
    clear HS
    go_wp2_with fail
    refine (lives _).mono ?_
    rintro e W3 ⟨rfl, z⟩
    replace F0 := F0.below z F0.lt
    replace F1 := F1.below z F1.lt
    replace F2 := F2.below z F2.lt
    replace A1 := A1.below z A1.lt
    replace hr := hr.below z
    replace q1 := q1.below z
    replace b0 := b0.trans (z.mono b0.size)
    clear z
    go_wp2_with fail
    go_ret
    exact ⟨rfl, b0⟩
end Go.Proofs.Ytiddpkppfpdfhaa.pf
