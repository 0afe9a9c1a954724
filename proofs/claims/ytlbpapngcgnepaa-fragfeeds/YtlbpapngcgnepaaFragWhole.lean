/- What frag.complete answers. -/
import Derived.Test.YtlbpapngcgnepaaFragRefuse
namespace Go.Proofs.Ytlbpapngcgnepaa.frw
open Go.ChangeShapes Go.WideShapes Go.ChangeAt Go.RowKit Go.BigFrame
open Go.Proofs.Ytlbpapngcgnepaa Go.Proofs.Ytlbpapngcgnepaa.ipb Go.Proofs.Ytlbpapngcgnepaa.boxes Go.Proofs.Ytlbpapngcgnepaa.ipr Go.Proofs.Ytlbpapngcgnepaa.frb Go.Proofs.Ytlbpapngcgnepaa.frs Go.Proofs.Ytlbpapngcgnepaa.frp Go.Proofs.Ytlbpapngcgnepaa.frx Go.Proofs.Ytlbpapngcgnepaa.frf2
open Go.Proofs.Ytlbpapngcgnepaa.rws (Own Knd)

/-- parts that go on from x without a gap -/
def cpl : Int → List Pt → Bool
  | _, [] => true
  | x, p :: r => decide (p.a = x) && cpl p.e r
def lastLa (ps : List Pt) : Bool := match ps[ps.length - 1]? with
  | some p => p.la
  | none => false
/-- all parts are there -/
def whole (ps : List Pt) : Bool := cpl 0 ps && lastLa ps
/-- where the part at i must begin -/
def nx (x : Int) (ps : List Pt) : Nat → Int
  | 0 => x
  | i + 1 => match ps[i]? with
    | some p => p.e
    | none => x
theorem cpl_iff : ∀ (ps : List Pt) (x : Int), cpl x ps = true ↔ ∀ (j : Nat) q, ps[j]? = some q → q.a = nx x ps j
  | [], x => by simp [cpl]
  | p :: r, x => by
    simp only [cpl, Bool.and_eq_true, decide_eq_true_eq]
    rw [cpl_iff r p.e]
    constructor
    · rintro ⟨h1, h2⟩ j q hj
      cases j with
      | zero => simp at hj; subst hj; exact h1
      | succ j =>
        have hj' : r[j]? = some q := by simpa using hj
        have := h2 j q hj'
        rw [this]
        cases j with
        | zero => rfl
        | succ j =>
          have hjl := (List.getElem?_eq_some_iff.1 hj').1
          simp only [nx]
          rw [show (p :: r)[j + 1]? = r[j]? by simp, List.getElem?_eq_getElem (show j < r.length by omega)]
    · intro h
      refine ⟨h 0 p rfl, fun j q hj => ?_⟩
      have := h (j + 1) q (by simpa using hj)
      rw [this]
      cases j with
      | zero => rfl
      | succ j =>
        have hjl := (List.getElem?_eq_some_iff.1 hj).1
        simp only [nx]
        rw [show (p :: r)[j + 1]? = r[j]? by simp, List.getElem?_eq_getElem (show j < r.length by omega)]
set_option maxRecDepth 20000 in
set_option maxHeartbeats 8000000 in
theorem whole_any (v : Value) (ps : List Pt) (w : World) (hr : Rd TK w v ps) (hs : ∀ o ∈ ps, Sm o) :
    Calls Try.prog 57 #[v] w fun e w' => e = .returned (.bool (whole ps)) ∧ Below w.heap.size w w' := by
  obtain ⟨sa, sc, rfl, hm, hf, hc⟩ := hr
  obtain ⟨n, hn⟩ : ∃ n, ps.length = n := ⟨_, rfl⟩
  have hm' : n ≤ 9223372036854775807 := by unfold maxLen at hm; omega
  obtain ⟨R, hR⟩ : ∃ R, Hid (whole ps = R) := ⟨_, rfl⟩
  rw [hR.out, hn]
  go_enter Try.func57, Try.ntmps57
  go_wp2_with fail
  go_loopw [3, 8] (fun s3 s8 wr => ∃ i : Nat, s8 = .int .i64 (i : Int) ∧ s3 = .int .i64 (nx 0 ps i) ∧ i ≤ n ∧ Hid (∀ (j : Nat) o, j < i → ps[j]? = some o → o.a = nx 0 ps j) ∧ Below w.heap.size w wr) (fun _ i _ => n - (intOf i).toNat)
  case atStart => exact ⟨0, rfl, rfl, Nat.zero_le _, fun j _ hj => absurd hj (Nat.not_lt_zero _), Below.refl _ _⟩
  case round =>
    obtain ⟨i, rfl, rfl, hi, HA, bel⟩ := hrel
    have hB := bel.size
    by_cases hlt : i < n
    · obtain ⟨b, off, rfl, hb, hx⟩ := hc (by omega)
      obtain ⟨o, ho⟩ : ∃ o, ps[i]? = some o := ⟨ps[i]'(by omega), List.getElem?_eq_getElem (by omega)⟩
      have hlt' : (i : Int) < (n : Int) := by omega
      have hx1 : ∀ (j : Nat) y, ps[j]? = some y → ∀ i, i < TK.k → wr.cell? ⟨b, off + j * TK.k + i, none⟩ = (TK.enc y)[i]? := fun j y hj i hi => (bel.cell (p := ⟨b, off + j * TK.k + i, none⟩) hb).trans (hx j y hj i hi)
      have hos := hs o (List.mem_of_getElem? ho)
      have CO := fun u => end_any o u hos.a0 hos.a1 hos.d1
      have B1 := Blk.new wr o.cells 49
      have bel2 := bel.alloc hB (.cells o.cells 49)
      have hnx : nx 0 ps (i + 1) = o.e := by simp only [nx]; rw [ho]
      have hbad : ¬ o.a = nx 0 ps i → R = false := fun hne => by
        rw [← hR.out]; unfold whole
        have : cpl 0 ps = false := by
          by_cases hh : cpl 0 ps = true
          · exact absurd ((cpl_iff ps 0).1 hh i o ho) hne
          · simpa using hh
        rw [this]; rfl
      have HA' : o.a = nx 0 ps i → Hid (∀ (j : Nat) o, j < i + 1 → ps[j]? = some o → o.a = nx 0 ps j) := fun hcl j o' hj hjo => by
        by_cases hji : j < i
        · exact HA.out j o' hji hjo
        · have : j = i := by omega
          subst this
          rw [ho] at hjo
          obtain rfl := Option.some.inj hjo
          exact hcl
      rw [← hnx] at CO
      generalize hN : nx 0 ps i = N at hbad HA'
      generalize hN1 : nx 0 ps (i + 1) = N1 at CO
      clear HA hR hx hnx hos hs hc hN
      by_cases he : o.a = N
      · have HA2 := HA' he
        have he' : (o.a != N) = false := by simpa using he
        clear hbad HA'
        obtain ⟨oa, od, ol⟩ := o
        simp only at he he'
        subst he
        have d1 := B1.cell
        go_wp2_with (refine rd_load TK _ rfl _ rfl b off ps hx1 i _ rfl rfl _ ho (Pt.cells ⟨oa, od, ol⟩) rfl _ Try.underlying49 rfl ?_)
        refine (CO _).mono ?_
        rintro e w2 ⟨rfl, c2⟩
        have bel3 := bel2.trans (c2.mono bel2.size)
        go_wp2_with fail
        go_roundw
        case rel => exact ⟨i + 1, by simp, by rw [hN1], by omega, HA2, bel3⟩
        case measure => simp [intOf]; omega
      · have e := hbad he
        subst e
        have he' : (o.a != N) = true := by simpa using he
        clear hbad HA' CO
        obtain ⟨oa, od, ol⟩ := o
        simp only at he'
        go_wp2_with (refine rd_load TK _ rfl _ rfl b off ps hx1 i _ rfl rfl _ ho (Pt.cells ⟨oa, od, ol⟩) rfl _ Try.underlying49 rfl ?_)
        go_ret
        exact ⟨rfl, bel2⟩
    · have hin : i = n := by omega
      have hlt' : ¬ (i : Int) < (n : Int) := by omega
      have hcp : cpl 0 ps = true := (cpl_iff ps 0).2 fun j q hj => HA.out j q (by have := (List.getElem?_eq_some_iff.1 hj).1; omega) hj
      by_cases h0 : 0 < n
      · obtain ⟨b, off, rfl, hb, hx⟩ := hc (by omega)
        obtain ⟨m, hmn⟩ : ∃ m, n = m + 1 := ⟨n - 1, by omega⟩
        obtain ⟨o, ho⟩ : ∃ o, ps[m]? = some o := ⟨ps[m]'(by omega), List.getElem?_eq_getElem (by omega)⟩
        have e : R = o.la := by
          rw [← hR.out]; unfold whole lastLa
          rw [hcp, hn, hmn, Nat.add_sub_cancel, ho]; rfl
        subst e
        have c2 : wr.cell? ⟨b, off + m * 3 + 2, none⟩ = some (.bool o.la) := (bel.cell (p := ⟨b, off + m * 3 + 2, none⟩) hb).trans (hx m o ho 2 (by decide))
        have hbw : b < wr.heap.size := Nat.lt_of_lt_of_le hb hB
        have hm9 : (m : Int) + 1 ≤ 9223372036854775807 := by omega
        clear HA hR hx hc hcp hin hn hm
        subst hmn
        have hlt2 : ¬ (i : Int) < (m : Int) + 1 := by omega
        have h00 : (0 : Int) < (m : Int) + 1 := by omega
        generalize nx 0 ps i = N
        go_wp2_with fail
        go_ret
        exact ⟨rfl, bel⟩
      · have hn0 : n = 0 := by omega
        have hp0 : ps = [] := List.eq_nil_of_length_eq_zero (by omega)
        have e : R = false := by rw [← hR.out, hp0]; rfl
        subst e
        subst hn0
        generalize nx 0 ps i = N
        clear HA hR hc hcp
        go_wp2_with fail
        go_ret
        exact ⟨rfl, bel⟩
end Go.Proofs.Ytlbpapngcgnepaa.frw
