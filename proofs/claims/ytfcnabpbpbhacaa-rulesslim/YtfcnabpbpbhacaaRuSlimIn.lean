/- The walk of custlaw.RulesSlim. -/
import Derived.Test.YtfcnabpbpbhacaaRuSlim
import Derived.Test.YtfcnabpbpbhacaaRuBoxIn
namespace Go.Proofs.Ytfcnabpbpbhacaa.ru
open Go.ChangeShapes Go.WideShapes Go.ChangeAt Go.RowKit Go.BigFrame
open Go.Proofs.Ytfcnabpbpbhacaa Go.Proofs.Ytfcnabpbpbhacaa.pm Go.Proofs.Ytfcnabpbpbhacaa.pf Go.Proofs.Ytfcnabpbpbhacaa.boxes Go.Proofs.Ytfcnabpbpbhacaa.rwr Go.Proofs.Ytfcnabpbpbhacaa.rwd
open Go.Proofs.Ytfcnabpbpbhacaa.rws (Knd Own)

abbrev YC (x y : Ru) : Array Value := #[.int .u32 (x.fa : Int), .int .i64 x.fl, .int .u32 (x.ta : Int), .int .i64 x.tl, .int .i64 x.pr, .int .i64 x.a, .int .i64 x.b, .int .i64 x.c, .int .i64 x.d, .bool x.ps, .int .u32 (y.fa : Int), .int .i64 y.fl, .int .u32 (y.ta : Int), .int .i64 y.tl, .int .i64 y.pr, .int .i64 y.a, .int .i64 y.b, .int .i64 y.c, .int .i64 y.d, .bool y.ps]
/-- what is useless so far -/
def usl (l : List Ru) (x : Ru) (k : Nat) : Bool := (l.take k).any fun y => cov y x
theorem usl_succ {l : List Ru} {k : Nat} {y : Ru} (h : l[k]? = some y) (x : Ru) : usl l x (k + 1) = (usl l x k || cov y x) := by
  unfold usl
  rw [List.take_add_one, h, List.any_append]
  simp
theorem mem_two {x y : Ru} (hx : fits x) (hy : fits y) : ∀ r ∈ [x, y], fits r := fun r hr => by
  simp only [List.mem_cons, List.not_mem_nil, or_false] at hr
  rcases hr with rfl | rfl
  · exact hx
  · exact hy
theorem row_cells {wr : World} {b off : Nat} {l : List Ru} (hb : b < wr.heap.size) (hx : ∀ j x, l[j]? = some x → ∀ i, i < UK.k → wr.cell? ⟨b, off + j * UK.k + i, none⟩ = (UK.enc x)[i]?) {k : Nat} {y : Ru} (hy : l[k]? = some y) (i : Nat) (v : Value) (hv : (Ru.cells y)[i]? = some v) (z : cls.In (ab.Ab wr)) : z.W.cell? ⟨b, off + k * 10 + i, none⟩ = some v := by
  have hi : i < 10 := (Array.getElem?_eq_some_iff.1 hv).1
  exact ((Below.cell z.h (p := ⟨b, off + k * 10 + i, none⟩) hb).trans (hx k y hy i hi)).trans hv
set_option maxRecDepth 20000 in
set_option maxHeartbeats 8000000 in
theorem slim_walk (v : Value) (l : List Ru) (x y : Ru) (w : World) (h : Rd UK w v l) (hl : ∀ x ∈ l, fits x) (hx : fits x) (hy : fits y) :
    Calls Try.prog 4 #[v, .agg (Ru.cells x), .agg (Ru.cells y)] w fun e w' => e = .returned (.bool true) ∧ Below w.heap.size w w' := by
  have G0 := (Blk.new w (Ru.cells x) 34).alloc (.cells (Ru.cells y) 34)
  have F0 := Blk.newAt (w.alloc (.cells (Ru.cells x) 34)) (Ru.cells y) 34 (b := w.heap.size + 1) (by simp)
  have b0 := ((Below.refl w.heap.size w).alloc (Nat.le_refl _) (.cells (Ru.cells x) 34)).alloc (by simp) (.cells (Ru.cells y) 34)
  have R0 := h.below b0
  have KV1 := fun u => covers2_any x y u hx hy
  have KV2 : Hid (∀ (v : Value) (W : World), Rd UK W v [x, y] → Calls Try.prog 11 #[v] W fun e w' => e = .returned (.int .i64 (cerr x y)) ∧ Below W.heap.size W w') := fun v W hr => by
    rw [← chk_two]
    exact rulesRight_any v [x, y] W hr (mem_two hx hy)
  have KV3 : Hid (cerr x y = 0 → ∀ W, Calls Try.prog 13 #[.agg (Ru.cells x), .agg (Ru.cells y)] W fun e w' => e = .returned (.bool (ccov x y)) ∧ Below W.heap.size W w') := fun h0 W => by
    unfold cerr at h0
    cases ox : okR x
    · rw [ox] at h0; simp at h0
    · cases oy : okR y
      · rw [ox, oy] at h0; simp at h0
      · have e : ccov x y = cov x y := by unfold ccov; rw [ox, oy]; simp
        rw [e]
        exact boxIn_any x y W ox hx oy hy
  have KZ : Hid (cerr x y ≠ 0 → ccov x y = false) := fun h0 => by
    unfold cerr at h0
    unfold ccov
    cases ox : okR x <;> cases oy : okR y <;> simp_all
  have KV4 : ∀ u, Rd UK u v l → _ := fun u hu => slim_any v l u hu hl
  have KV5 : ∀ u, Rd UK u v l → _ := fun u hu => rulesRight_any v l u hu hl
  generalize hV : (w.alloc (.cells (Ru.cells x) 34)).alloc (.cells (Ru.cells y) 34) = V at *
  have HV : Hid ((w.alloc (.cells (Ru.cells x) 34)).alloc (.cells (Ru.cells y) 34) = V) := hV
  clear hV hx hy
  generalize ccov x y = DP at *
  generalize cerr x y = E at *
  obtain ⟨sa, sc, rfl⟩ := R0.form
  have hml := rd_len R0
  have hle : l.length ≤ sc := (rd_cap R0).2
  have HX : Hid (∀ u, Below V.heap.size V u → 0 < l.length → ∃ b off, sa = some ⟨b, off, none⟩ ∧ b < u.heap.size ∧ ∀ j x, l[j]? = some x → ∀ i, i < UK.k → u.cell? ⟨b, off + j * UK.k + i, none⟩ = (UK.enc x)[i]?) := fun u hu hp => rd_spot (R0.below hu) hp
  have HY : Hid (chk l = 0 → sl l = slN l l.length ∧ l.length ≤ 64) := fun h => ⟨if_pos h, (chk_zero.1 h).1⟩
  have HZ : Hid (chk l ≠ 0 → sl l = []) := fun h => if_neg h
  have HG : Hid (∀ i, i < l.length → ∃ x, l[i]? = some x ∧ fits x) := gets hl
  have HS : Hid (∀ i x, l[i]? = some x → slN l (i + 1) = if usl l x i then slN l i else slN l i ++ [x]) := fun i x hx => slN_succ l i x hx
  have HL : Hid (∀ i, (slN l i).length ≤ i) := slN_len l
  have HB : Hid (chk l = 0 → ∀ (i k : Nat) (p q : Ru), l[i]? = some p → l[k]? = some q → ∀ W, Calls Try.prog 13 #[.agg (Ru.cells q), .agg (Ru.cells p)] W fun e w' => e = .returned (.bool (cov q p)) ∧ Below W.heap.size W w') := fun h0 i k p q hp hq W => by
    have mp := List.mem_of_getElem? hp
    have mq := List.mem_of_getElem? hq
    exact boxIn_any q p W ((chk_zero.1 h0).2 q mq) (hl q mq) ((chk_zero.1 h0).2 p mp) (hl p mp)
  have EQ : ∀ u v1 v2 m, Rd UK u v1 m → Rd UK u v2 m → Calls Try.prog 15 #[v1, v2] u fun e w' => e = .returned (.bool true) ∧ Below u.heap.size u w' := fun u v1 v2 m h1 h2 => by
    have := equalU_any u v1 v2 _ _ h1 h2
    rw [rub_self] at this
    exact this
  generalize hE2 : chk l = E2 at *
  have KS := sl l
  generalize hsl : sl l = S at *
  clear KS hE2 hsl hl h
  generalize hm : l.length = m at *
  clear hm
  have O2 := Own.lit UK V V.heap.size (Nat.le_refl _) [x, y] (by show (2 : Nat) ≤ maxLen; decide) (YC x y) rfl
  go_enter Try.func4, Try.ntmps4
  go_upto_region 1 with fail
  rw [HV.out]
  go_wp2_with (first
    | (refine blk_load _ rfl 34 _ rfl w.heap.size rfl _ _ G0 _ Try.underlying34 rfl 10 ru_info rfl ?_)
    | (refine blk_load _ rfl 34 _ rfl (w.heap.size + 1) rfl _ _ F0 _ Try.underlying34 rfl 10 ru_info rfl ?_))
  clear O2
  refine (KV1 _).mono ?_
  rintro e w1 ⟨rfl, z1⟩
  have b1 := b0.trans (z1.mono b0.size)
  have R1 := R0.below z1
  have G1 := G0.below z1 G0.lt
  have F1 := F0.below z1 F0.lt
  have v1 := z1
  clear R0 G0 F0 b0 z1 KV1
  have O2 := Own.lit UK w1 w1.heap.size (Nat.le_refl _) [x, y] (by show (2 : Nat) ≤ maxLen; decide) (YC x y) rfl
  have dA := (Below.refl w1.heap.size w1).alloc (Nat.le_refl _) (.cells (YC x y) 34)
  go_upto_region 2 with fail
  go_wp2_with (first
    | (refine blk_load _ rfl 34 _ rfl w.heap.size rfl _ _ G1 _ Try.underlying34 rfl 10 ru_info rfl ?_)
    | (refine blk_load _ rfl 34 _ rfl (w.heap.size + 1) rfl _ _ F1 _ Try.underlying34 rfl 10 ru_info rfl ?_))
  refine (KV2.out _ _ (Own.rd O2)).mono ?_
  rintro e w2 ⟨rfl, z2⟩
  have d2 := dA.trans (z2.mono dA.size)
  have b2 := b1.trans (d2.mono b1.size)
  have v2 := v1.trans (d2.mono v1.size)
  have R2 := R1.below d2
  have G2 := G1.below d2 G1.lt
  have F2 := F1.below d2 F1.lt
  clear R1 G1 F1 b1 z2 d2 dA v1 O2 KV2
  go_upto_if 29 with fail
  go_cut [9] (fun s9 wx => s9 = .bool DP ∧ Below w2.heap.size w2 wx)
  case first =>
    by_cases h0 : E = 0
    · subst h0
      have K3 := KV3.out rfl
      go_wp2_with (first
        | (refine blk_load _ rfl 34 _ rfl w.heap.size rfl _ _ G2 _ Try.underlying34 rfl 10 ru_info rfl ?_)
        | (refine blk_load _ rfl 34 _ rfl (w.heap.size + 1) rfl _ _ F2 _ Try.underlying34 rfl 10 ru_info rfl ?_))
      refine (K3 _).mono ?_
      rintro e w3 ⟨rfl, z3⟩
      go_wp2_with fail
      go_meet
      exact ⟨rfl, z3⟩
    · have hd := KZ.out h0
      subst hd
      go_wp2_with fail
      go_meet
      exact ⟨rfl, Below.refl _ _⟩
  case rest =>
    obtain ⟨rfl, z3⟩ := hcut
    have b3 := b2.trans (z3.mono b2.size)
    have v3 := v2.trans (z3.mono v2.size)
    have R3 := R2.below z3
    clear R2 G2 F2 b2 v2 z3 KV3 KZ
    go_wp2_with fail
    refine (KV4 _ R3).mono ?_
    rintro e w4 ⟨u4, rfl, O4, z4⟩
    have b4 := b3.trans (z4.mono b3.size)
    have v4 := v3.trans (z4.mono v3.size)
    have R4 := R3.below z4
    have r4 := Own.rd O4
    clear R3 O4 b3 v3 z4 KV4
    go_wp2_with fail
    refine (KV5 _ R4).mono ?_
    rintro e w5 ⟨rfl, z5⟩
    have b5 := b4.trans (z5.mono b4.size)
    have v5 := v4.trans (z5.mono v4.size)
    have r5 := r4.below z5
    clear R4 r4 b4 v4 z5 KV5
    by_cases hE : E2 = 0
    · subst hE
      obtain ⟨hs1, hm64⟩ := HY.out rfl
      have HS1 : Hid (S = slN l m) := hs1
      have HB1 := show Hid _ from HB.out rfl
      clear hs1 HY HZ HB
      go_wp2_with fail
      go_loopw [13, 42] (fun s13 s42 wr => ∃ (i : Nat) (v13 : Value), s42 = .int .i64 (i : Int) ∧ v13 = s13 ∧ i ≤ m ∧ Own UK wr w5.heap.size v13 (slN l i) ∧ Below w5.heap.size w5 wr) (fun _ s _ => m - (intOf s).toNat)
      case atStart => exact ⟨0, _, rfl, rfl, Nat.zero_le _, Own.nil _ _ _, Below.refl _ _⟩
      case round =>
        obtain ⟨i, v13, rfl, rfl, hi, O, bel⟩ := hrel
        by_cases hlt : i < m
        · have hlt' : (i : Int) < (m : Int) := by omega
          obtain ⟨p, gp, _⟩ := HG.out i hlt
          have hl := HL.out i
          have hS := HS.out i p gp
          have HS2 : Hid (usl l p i = true → slN l (i + 1) = slN l i) := fun h => by rw [hS, if_pos h]
          have HS3 : Hid (usl l p i = false → slN l (i + 1) = slN l i ++ [p]) := fun h => by rw [hS, if_neg (by rw [h]; decide)]
          have HU : Hid (∀ k y, l[k]? = some y → usl l p (k + 1) = (usl l p k || cov y p)) := fun k y hy => usl_succ hy p
          have HB2 : Hid (∀ k q, l[k]? = some q → ∀ W, Calls Try.prog 13 #[.agg (Ru.cells q), .agg (Ru.cells p)] W fun e w' => e = .returned (.bool (cov q p)) ∧ Below W.heap.size W w') := fun k q hq W => HB1.out i k p q gp hq W
          clear hS
          obtain ⟨W, hW⟩ : ∃ W, W = wr := ⟨_, rfl⟩
          subst hW
          go_wp2_with fail
          go_loopw [16, 17] (fun s16 s17 wr => ∃ (k : Nat) (c : Bool), s17 = .int .i64 (k : Int) ∧ s16 = .bool c ∧ k ≤ i ∧ Hid (c = usl l p k) ∧ Below W.heap.size W wr) (fun _ s _ => i - (intOf s).toNat)
          case atStart => exact ⟨0, false, rfl, rfl, Nat.zero_le _, rfl, Below.refl _ _⟩
          case round =>
            obtain ⟨k, c, rfl, rfl, hk, HC, bel2⟩ := hrel
            by_cases hki : k < i
            · have hki' : (k : Int) < (i : Int) := by omega
              obtain ⟨q, gq, _⟩ := HG.out k (by omega)
              have HU2 := HU.out k q gq
              have CB := HB2.out k q gq
              have bel3 := v5.trans ((bel.trans (bel2.mono bel.size)).mono v5.size)
              obtain ⟨b, off, rfl, hb2, hx⟩ := HX.out wr bel3 (by omega)
              cases c with
              | true =>
                have HU3 : Hid (true = usl l p (k + 1)) := by show _ = _; rw [HU2, ← HC.out]; rfl
                clear HU2 HC CB hx
                have ne := ab.ne wr
                go_upto_region 15 with fail
                refine ab.region (by kernel_rfl) (by kernel_rfl) ?_
                repeat (go_big_quiet_step (fail))
                refine wpQuiet_nil ?_
                intro _ hz
                obtain ⟨z, rfl⟩ := hz
                have bel4 := bel2.trans (Below.mono z.h bel2.size)
                go_wp2_with fail
                go_roundw
                case rel => exact ⟨k + 1, true, by go_num, rfl, by omega, HU3, bel4⟩
                case measure => simp [intOf]; omega
              | false =>
                have HU3 : Hid (cov q p = usl l p (k + 1)) := by show _ = _; rw [HU2, ← HC.out]; rfl
                generalize cov q p = cc at *
                clear HU2 HC HB2 HU HS2 HS3 HB1
                have ne := ab.ne wr
                have d0 : ∀ z : cls.In (ab.Ab wr), z.W.cell? ⟨b, off + k * 10, none⟩ = some (.int .u32 (q.fa : Int)) := row_cells hb2 hx gq 0 (.int .u32 (q.fa : Int)) rfl
                have d1 := row_cells hb2 hx gq 1 (.int .i64 q.fl) rfl
                have d2 := row_cells hb2 hx gq 2 (.int .u32 (q.ta : Int)) rfl
                have d3 := row_cells hb2 hx gq 3 (.int .i64 q.tl) rfl
                have d4 := row_cells hb2 hx gq 4 (.int .i64 q.pr) rfl
                have d5 := row_cells hb2 hx gq 5 (.int .i64 q.a) rfl
                have d6 := row_cells hb2 hx gq 6 (.int .i64 q.b) rfl
                have d7 := row_cells hb2 hx gq 7 (.int .i64 q.c) rfl
                have d8 := row_cells hb2 hx gq 8 (.int .i64 q.d) rfl
                have d9 := row_cells hb2 hx gq 9 (.bool q.ps) rfl
                have f0 : ∀ z : cls.In (ab.Ab wr), z.W.cell? ⟨b, off + i * 10, none⟩ = some (.int .u32 (p.fa : Int)) := row_cells hb2 hx gp 0 (.int .u32 (p.fa : Int)) rfl
                have f1 := row_cells hb2 hx gp 1 (.int .i64 p.fl) rfl
                have f2 := row_cells hb2 hx gp 2 (.int .u32 (p.ta : Int)) rfl
                have f3 := row_cells hb2 hx gp 3 (.int .i64 p.tl) rfl
                have f4 := row_cells hb2 hx gp 4 (.int .i64 p.pr) rfl
                have f5 := row_cells hb2 hx gp 5 (.int .i64 p.a) rfl
                have f6 := row_cells hb2 hx gp 6 (.int .i64 p.b) rfl
                have f7 := row_cells hb2 hx gp 7 (.int .i64 p.c) rfl
                have f8 := row_cells hb2 hx gp 8 (.int .i64 p.d) rfl
                have f9 := row_cells hb2 hx gp 9 (.bool p.ps) rfl
                go_upto_region 15 with fail
                refine ab.region (by kernel_rfl) (by kernel_rfl) ?_
                repeat (go_big_quiet_step ((go_at_call 13; exact ab.call (CB _))))
                refine wpQuiet_nil ?_
                intro _ hz
                obtain ⟨z, rfl⟩ := hz
                have bel4 := bel2.trans (Below.mono z.h bel2.size)
                clear d0 d1 d2 d3 d4 d5 d6 d7 d8 d9 f0 f1 f2 f3 f4 f5 f6 f7 f8 f9 ne CB hx
                go_wp2_with fail
                go_roundw
                case rel => exact ⟨k + 1, cc, by go_num, rfl, by omega, HU3, bel4⟩
                case measure => simp [intOf]; omega
            · obtain rfl : k = i := by omega
              have bel3 := v5.trans ((bel.trans (bel2.mono bel.size)).mono v5.size)
              have bel4 := bel.trans (bel2.mono bel.size)
              obtain ⟨b, off, rfl, hb2, hx⟩ := HX.out wr bel3 (by omega)
              have O5 := O.kept bel2
              clear HB2 HU HB1 HX O
              cases c with
              | true =>
                have HW : Hid (slN l (k + 1) = slN l k) := HS2.out HC.out.symm
                clear HS2 HS3 HC hx
                go_wp2_with fail
                go_roundw
                case rel => exact ⟨k + 1, _, by go_num, rfl, by omega, by rw [HW.out]; exact O5, bel4⟩
                case measure => simp [intOf]; omega
              | false =>
                have HW : Hid (slN l (k + 1) = slN l k ++ [p]) := HS3.out HC.out.symm
                clear HS2 HS3 HC
                generalize slN l k = gl at *
                have O6 := O5.alloc (.cells (Ru.cells p) 34)
                have L6 := Blk.new wr (Ru.cells p) 34
                have q1 : gl.length + 1 ≤ maxLen := by unfold maxLen; omega
                have q2 : (gl.length + 1) * UK.by_ ≤ 140737488355328 := by show (gl.length + 1) * 80 ≤ _; omega
                have q3 : w5.heap.size ≤ (wr.alloc (.cells (Ru.cells p) 34)).heap.size := by have := bel4.size; simp; omega
                have b6 := bel4.alloc bel4.size (.cells (Ru.cells p) 34)
                go_upto_region 18 with (first
                  | (refine rd_load UK _ rfl _ rfl b off l hx k _ rfl rfl _ gp (Ru.cells p) rfl _ Try.underlying34 rfl ?_)
                  | (at_builtin; refine rws.app_one UK _ rfl _ _ rfl w5.heap.size _ gl rfl O6 wr.heap.size 1 p 34 rfl L6 q1 q2 q3 ?_; intro v7 w7 o7 l7 _))
                have b7 := b6.trans l7
                go_wp2_with fail
                go_roundw
                case rel => exact ⟨k + 1, v7, by go_num, rfl, by omega, by rw [HW.out]; exact o7, b7⟩
                case measure => simp [intOf]; omega
        · obtain rfl : i = m := by omega
          have hlt' : ¬ (i : Int) < (i : Int) := by omega
          have r6 := r5.below bel
          have o6 : Rd UK wr v13 S := by rw [HS1.out]; exact Own.rd O
          have b6 := b5.trans (bel.mono b5.size)
          clear HB1 HX HG HS HL HS1 O bel r5
          go_wp2_with fail
          refine (EQ _ _ _ _ r6 o6).mono ?_
          rintro e w6 ⟨rfl, z6⟩
          go_wp2_with fail
          go_ret
          exact ⟨rfl, b6.trans (z6.mono b6.size)⟩
    · have hS0 : S = [] := HZ.out hE
      subst hS0
      have hEb : (E2 == 0) = false := by simpa using hE
      clear HY HZ HB HG HS HL HX
      go_wp2_with fail
      go_loopw [13, 42] (fun s13 s42 wr => ∃ (i : Nat), s42 = .int .i64 (i : Int) ∧ s13 = .slice none 0 0 ∧ i ≤ m ∧ wr = w5) (fun _ s _ => m - (intOf s).toNat)
      case atStart => exact ⟨0, rfl, rfl, Nat.zero_le _, rfl⟩
      case round =>
        obtain ⟨i, rfl, rfl, hi, rfl⟩ := hrel
        by_cases hlt : i < m
        · have hlt' : (i : Int) < (m : Int) := by omega
          obtain ⟨W, hW⟩ : ∃ W, W = wr := ⟨_, rfl⟩
          subst hW
          go_wp2_with fail
          go_loopw [16, 17] (fun s16 s17 wr => s17 = .int .i64 0 ∧ s16 = .bool false ∧ wr = W) (fun _ _ _ => 0)
          case atStart => exact ⟨rfl, rfl, rfl⟩
          case round =>
            obtain ⟨rfl, rfl, rfl⟩ := hrel
            by_cases h0 : (0 : Int) < (i : Int)
            all_goals go_wp2_with fail
            all_goals go_roundw
            all_goals first | (exact ⟨i + 1, by go_num, rfl, by omega, by trivial⟩) | (simp [intOf]; omega)
        · obtain rfl : i = m := by omega
          have hlt' : ¬ (i : Int) < (i : Int) := by omega
          have o6 : Rd UK wr (.slice none 0 0) ([] : List Ru) := Own.rd (Own.nil UK wr 0)
          go_wp2_with fail
          refine (EQ _ _ _ _ r5 o6).mono ?_
          rintro e w6 ⟨rfl, z6⟩
          go_wp2_with fail
          go_ret
          exact ⟨rfl, b5.trans (z6.mono b5.size)⟩
end Go.Proofs.Ytfcnabpbpbhacaa.ru
