/- What frag.refusal answers. -/
import Derived.Test.YtlbpapngcgnepaaFragSmall
import Derived.Test.YtlbpapngcgnepaaJoinA
namespace Go.Proofs.Ytlbpapngcgnepaa.frf2
open Go.ChangeShapes Go.WideShapes Go.ChangeAt Go.RowKit Go.BigFrame
open Go.Proofs.Ytlbpapngcgnepaa Go.Proofs.Ytlbpapngcgnepaa.ipb Go.Proofs.Ytlbpapngcgnepaa.boxes Go.Proofs.Ytlbpapngcgnepaa.ipr Go.Proofs.Ytlbpapngcgnepaa.frb Go.Proofs.Ytlbpapngcgnepaa.frs Go.Proofs.Ytlbpapngcgnepaa.frp Go.Proofs.Ytlbpapngcgnepaa.frx
open Go.Proofs.Ytlbpapngcgnepaa.rws (Own Knd)

/-- the part q may not stand beside o -/
def cl (q o : Pt) : Bool := (decide (q.a < o.e) && decide (o.a < q.e)) || ((o.la && decide (o.a < q.a)) || (q.la && decide (q.a < o.a)))
/-- why q is refused -/
def rfs (ps : List Pt) (q : Pt) : Int := if ps.any (cl q) = true then 8 else if 64 ≤ ps.length then 6 else 0
/-- a part whose numbers are small -/
structure Sm (q : Pt) : Prop where
  a0 : 0 ≤ q.a
  a1 : q.a ≤ 1000000
  d1 : q.d.size ≤ 1000000
set_option maxRecDepth 20000 in
set_option maxHeartbeats 8000000 in
theorem ref_any (v : Value) (ps : List Pt) (q : Pt) (w : World) (hr : Rd TK w v ps) (hs : ∀ o ∈ ps, Sm o) (hq : Sm q) :
    Calls Try.prog 54 #[v, .agg q.cells] w fun e w' => e = .returned (.int .i64 (rfs ps q)) ∧ Below w.heap.size w w' := by
  obtain ⟨sa, sc, rfl, hm, hf, hc⟩ := hr
  obtain ⟨n, hn⟩ : ∃ n, ps.length = n := ⟨_, rfl⟩
  have hm' : n ≤ 9223372036854775807 := by unfold maxLen at hm; omega
  obtain ⟨R, hR⟩ : ∃ R, Hid (rfs ps q = R) := ⟨_, rfl⟩
  rw [hR.out, hn]
  have CE := fun u => end_any q u hq.a0 hq.a1 hq.d1
  have F0 := Blk.new w q.cells 49
  have b0 := (Below.refl w.heap.size w).alloc (Nat.le_refl _) (.cells q.cells 49)
  go_enter Try.func54, Try.ntmps54
  go_wp2_with fail
  generalize w.alloc (.cells q.cells 49) = V at *
  go_loopw [10] (fun s wr => ∃ i : Nat, s = .int .i64 (i : Int) ∧ i ≤ n ∧ Hid (∀ j o, j < i → ps[j]? = some o → cl q o = false) ∧ Below V.heap.size V wr) (fun i _ => n - (intOf i).toNat)
  case atStart => exact ⟨0, rfl, Nat.zero_le _, fun j _ hj => absurd hj (Nat.not_lt_zero _), Below.refl _ _⟩
  case round =>
    obtain ⟨i, rfl, hi, HA, bel⟩ := hrel
    have hB := bel.size
    have F1 := F0.below bel F0.lt
    have belw := b0.trans (bel.mono b0.size)
    by_cases hlt : i < n
    · obtain ⟨b, off, rfl, hb, hx⟩ := hc (by omega)
      obtain ⟨o, ho⟩ : ∃ o, ps[i]? = some o := ⟨ps[i]'(by omega), List.getElem?_eq_getElem (by omega)⟩
      have hlt' : (i : Int) < (n : Int) := by omega
      have hx1 : ∀ (j : Nat) y, ps[j]? = some y → ∀ i, i < TK.k → wr.cell? ⟨b, off + j * TK.k + i, none⟩ = (TK.enc y)[i]? := fun j y hj i hi => (belw.cell (p := ⟨b, off + j * TK.k + i, none⟩) hb).trans (hx j y hj i hi)
      have hos := hs o (List.mem_of_getElem? ho)
      have CO := fun u => end_any o u hos.a0 hos.a1 hos.d1
      have B1 := Blk.new wr o.cells 49
      have F2 := F1.alloc (.cells o.cells 49)
      have bel2 := bel.alloc hB (.cells o.cells 49)
      have belw2 := belw.alloc belw.size (.cells o.cells 49)
      go_upto_region 4 with (refine rd_load TK _ rfl _ rfl b off ps hx1 i _ rfl rfl o ho o.cells rfl _ Try.underlying49 rfl ?_)
      generalize wr.alloc (.cells o.cells 49) = U at *
      have nn := ab.ne U
      have cq := ab.cells F2
      have co := ab.cells B1
      have hbad : cl q o = true → R = 8 := fun hcl => by
        rw [← hR.out]; unfold rfs
        rw [if_pos (List.any_eq_true.2 ⟨o, List.mem_of_getElem? ho, hcl⟩)]
      have HA' : cl q o = false → Hid (∀ j o, j < i + 1 → ps[j]? = some o → cl q o = false) := fun hcl j o' hj hjo => by
        by_cases hji : j < i
        · exact HA.out j o' hji hjo
        · have : j = i := by omega
          subst this
          rw [ho] at hjo
          obtain rfl := Option.some.inj hjo
          exact hcl
      rw [show cl q o = ((decide (q.a < o.e) && decide (o.a < q.e)) || ((o.la && decide (o.a < q.a)) || (q.la && decide (q.a < o.a)))) from rfl] at hbad HA'
      generalize q.e = qe at CE hbad HA'
      generalize o.e = oe at CO hbad HA'
      clear HA hR hx hx1 hos ho hs hq hc
      obtain ⟨qa, qd, ql⟩ := q
      obtain ⟨oa, od, ol⟩ := o
      simp only at hbad HA'
      by_cases h1 : qa < oe
      · by_cases h2 : oa < qe
        · have d1 : decide (qa < oe) = true := decide_eq_true h1
          have d2 : decide (oa < qe) = true := decide_eq_true h2
          refine ab.region (by kernel_rfl) (by kernel_rfl) ?_
          repeat (go_big_quiet_step ((go_at_call 70; first | exact ab.call (CO _) | exact ab.call (CE _))))
          refine wpQuiet_nil ?_
          intro _ hy
          obtain ⟨y, rfl⟩ := hy
          have cq1 := cq y
          have co1 := co y
          have ly : w.heap.size < y.W.heap.size := Nat.lt_of_lt_of_le F2.lt (Below.size y.h)
          have lo : wr.heap.size < y.W.heap.size := Nat.lt_of_lt_of_le B1.lt (Below.size y.h)
          have by1 := bel2.trans (Below.mono y.h bel2.size)
          have by2 := belw2.trans (Below.mono y.h belw2.size)
          have e := hbad (by simp [h1, h2])
          subst e
          go_wp2_with fail
          go_ret
          exact ⟨rfl, by2⟩
        · have d1 : decide (qa < oe) = true := decide_eq_true h1
          have d2 : decide (oa < qe) = false := decide_eq_false h2
          refine ab.region (by kernel_rfl) (by kernel_rfl) ?_
          repeat (go_big_quiet_step ((go_at_call 70; first | exact ab.call (CO _) | exact ab.call (CE _))))
          refine wpQuiet_nil ?_
          intro _ hy
          obtain ⟨y, rfl⟩ := hy
          have cq1 := cq y
          have co1 := co y
          have ly : w.heap.size < y.W.heap.size := Nat.lt_of_lt_of_le F2.lt (Below.size y.h)
          have lo : wr.heap.size < y.W.heap.size := Nat.lt_of_lt_of_le B1.lt (Below.size y.h)
          have by1 := bel2.trans (Below.mono y.h bel2.size)
          have by2 := belw2.trans (Below.mono y.h belw2.size)
          clear CE CO cq co
          have goB : ((ol && decide (oa < qa)) || (ql && decide (qa < oa))) = true → R = 8 := fun hh => hbad (by simp [h2, hh])
          have goA : ((ol && decide (oa < qa)) || (ql && decide (qa < oa))) = false → Hid (∀ j o, j < i + 1 → ps[j]? = some o → cl ⟨qa, qd, ql⟩ o = false) := fun hh => HA' (by simp [h2, hh])
          clear hbad HA'
          by_cases k1 : oa < qa
          · have k2 : ¬ qa < oa := by omega
            cases ol with
            | true =>
              have e := goB (by simp [k1])
              subst e
              clear goA goB
              go_wp2_with fail
              go_ret
              exact ⟨rfl, by2⟩
            | false =>
              have HA2 := goA (by simp [k2])
              clear goA goB
              cases ql with
              | true =>
                go_wp2_with fail
                go_roundw
                case rel => exact ⟨i + 1, by simp, by omega, HA2, by1⟩
                case measure => simp [intOf]; omega
              | false =>
                go_wp2_with fail
                go_roundw
                case rel => exact ⟨i + 1, by simp, by omega, HA2, by1⟩
                case measure => simp [intOf]; omega
          · by_cases k2 : qa < oa
            · cases ql with
              | true =>
                have e := goB (by simp [k2])
                subst e
                clear goA goB
                cases ol with
                | true =>
                  go_wp2_with fail
                  go_ret
                  exact ⟨rfl, by2⟩
                | false =>
                  go_wp2_with fail
                  go_ret
                  exact ⟨rfl, by2⟩
              | false =>
                have HA2 := goA (by simp [k1])
                clear goA goB
                cases ol with
                | true =>
                  go_wp2_with fail
                  go_roundw
                  case rel => exact ⟨i + 1, by simp, by omega, HA2, by1⟩
                  case measure => simp [intOf]; omega
                | false =>
                  go_wp2_with fail
                  go_roundw
                  case rel => exact ⟨i + 1, by simp, by omega, HA2, by1⟩
                  case measure => simp [intOf]; omega
            · have HA2 := goA (by simp [k1, k2])
              clear goA goB
              cases ol with
              | true =>
                cases ql with
                | true =>
                  go_wp2_with fail
                  go_roundw
                  case rel => exact ⟨i + 1, by simp, by omega, HA2, by1⟩
                  case measure => simp [intOf]; omega
                | false =>
                  go_wp2_with fail
                  go_roundw
                  case rel => exact ⟨i + 1, by simp, by omega, HA2, by1⟩
                  case measure => simp [intOf]; omega
              | false =>
                cases ql with
                | true =>
                  go_wp2_with fail
                  go_roundw
                  case rel => exact ⟨i + 1, by simp, by omega, HA2, by1⟩
                  case measure => simp [intOf]; omega
                | false =>
                  go_wp2_with fail
                  go_roundw
                  case rel => exact ⟨i + 1, by simp, by omega, HA2, by1⟩
                  case measure => simp [intOf]; omega
      · have d1 : decide (qa < oe) = false := decide_eq_false h1
        refine ab.region (by kernel_rfl) (by kernel_rfl) ?_
        repeat (go_big_quiet_step ((go_at_call 70; first | exact ab.call (CO _) | exact ab.call (CE _))))
        refine wpQuiet_nil ?_
        intro _ hy
        obtain ⟨y, rfl⟩ := hy
        have cq1 := cq y
        have co1 := co y
        have ly : w.heap.size < y.W.heap.size := Nat.lt_of_lt_of_le F2.lt (Below.size y.h)
        have lo : wr.heap.size < y.W.heap.size := Nat.lt_of_lt_of_le B1.lt (Below.size y.h)
        have by1 := bel2.trans (Below.mono y.h bel2.size)
        have by2 := belw2.trans (Below.mono y.h belw2.size)
        clear CE CO cq co
        have goB : ((ol && decide (oa < qa)) || (ql && decide (qa < oa))) = true → R = 8 := fun hh => hbad (by simp [h1, hh])
        have goA : ((ol && decide (oa < qa)) || (ql && decide (qa < oa))) = false → Hid (∀ j o, j < i + 1 → ps[j]? = some o → cl ⟨qa, qd, ql⟩ o = false) := fun hh => HA' (by simp [h1, hh])
        clear hbad HA'
        by_cases k1 : oa < qa
        · have k2 : ¬ qa < oa := by omega
          cases ol with
          | true =>
            have e := goB (by simp [k1])
            subst e
            clear goA goB
            go_wp2_with fail
            go_ret
            exact ⟨rfl, by2⟩
          | false =>
            have HA2 := goA (by simp [k2])
            clear goA goB
            cases ql with
            | true =>
              go_wp2_with fail
              go_roundw
              case rel => exact ⟨i + 1, by simp, by omega, HA2, by1⟩
              case measure => simp [intOf]; omega
            | false =>
              go_wp2_with fail
              go_roundw
              case rel => exact ⟨i + 1, by simp, by omega, HA2, by1⟩
              case measure => simp [intOf]; omega
        · by_cases k2 : qa < oa
          · cases ql with
            | true =>
              have e := goB (by simp [k2])
              subst e
              clear goA goB
              cases ol with
              | true =>
                go_wp2_with fail
                go_ret
                exact ⟨rfl, by2⟩
              | false =>
                go_wp2_with fail
                go_ret
                exact ⟨rfl, by2⟩
            | false =>
              have HA2 := goA (by simp [k1])
              clear goA goB
              cases ol with
              | true =>
                go_wp2_with fail
                go_roundw
                case rel => exact ⟨i + 1, by simp, by omega, HA2, by1⟩
                case measure => simp [intOf]; omega
              | false =>
                go_wp2_with fail
                go_roundw
                case rel => exact ⟨i + 1, by simp, by omega, HA2, by1⟩
                case measure => simp [intOf]; omega
          · have HA2 := goA (by simp [k1, k2])
            clear goA goB
            cases ol with
            | true =>
              cases ql with
              | true =>
                go_wp2_with fail
                go_roundw
                case rel => exact ⟨i + 1, by simp, by omega, HA2, by1⟩
                case measure => simp [intOf]; omega
              | false =>
                go_wp2_with fail
                go_roundw
                case rel => exact ⟨i + 1, by simp, by omega, HA2, by1⟩
                case measure => simp [intOf]; omega
            | false =>
              cases ql with
              | true =>
                go_wp2_with fail
                go_roundw
                case rel => exact ⟨i + 1, by simp, by omega, HA2, by1⟩
                case measure => simp [intOf]; omega
              | false =>
                go_wp2_with fail
                go_roundw
                case rel => exact ⟨i + 1, by simp, by omega, HA2, by1⟩
                case measure => simp [intOf]; omega
    · have hin : i = n := by omega
      have hlt' : ¬ (i : Int) < (n : Int) := by omega
      have hno : ps.any (cl q) = false := by
        rw [List.any_eq_false]
        intro o ho
        obtain ⟨j, hj⟩ := List.getElem?_of_mem ho
        rw [HA.out j o (by have := (List.getElem?_eq_some_iff.1 hj).1; omega) hj]
        decide
      by_cases h64 : 64 ≤ n
      · have e : R = 6 := by rw [← hR.out]; unfold rfs; rw [hno, if_neg (by decide), if_pos (by omega)]
        subst e
        have h64' : (64 : Int) ≤ (n : Int) := by omega
        clear HA hR
        go_wp2_with fail
        go_ret
        exact ⟨rfl, belw⟩
      · have e : R = 0 := by rw [← hR.out]; unfold rfs; rw [hno, if_neg (by decide), if_neg (by omega)]
        subst e
        have h64' : ¬ (64 : Int) ≤ (n : Int) := by omega
        clear HA hR
        go_wp2_with fail
        go_ret
        exact ⟨rfl, belw⟩
end Go.Proofs.Ytlbpapngcgnepaa.frf2
