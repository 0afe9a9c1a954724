/- What frag.rightHeap and frag.Check answer. -/
import Derived.Test.YtlbpapngcgnepaaFragSmall
namespace Go.Proofs.Ytlbpapngcgnepaa.frr
open Go.ChangeShapes Go.WideShapes Go.ChangeAt Go.RowKit Go.BigFrame
open Go.Proofs.Ytlbpapngcgnepaa Go.Proofs.Ytlbpapngcgnepaa.ipb Go.Proofs.Ytlbpapngcgnepaa.boxes Go.Proofs.Ytlbpapngcgnepaa.ipr Go.Proofs.Ytlbpapngcgnepaa.frb Go.Proofs.Ytlbpapngcgnepaa.frs Go.Proofs.Ytlbpapngcgnepaa.frp Go.Proofs.Ytlbpapngcgnepaa.frx
open Go.Proofs.Ytlbpapngcgnepaa.rws (Own Knd)

/-- what is right of the part at j -/
def At (ps : List Pt) (j : Nat) : Prop := ∀ q, ps[j]? = some q → q.ok = true ∧ ∀ b, 0 < j → ps[j - 1]? = some b → fol b q = true
theorem folls_iff : ∀ (b : Pt) (r : List Pt), folls b r = true ↔ ∀ (j : Nat) q, r[j]? = some q → q.ok = true ∧ ∀ c, (b :: r)[j]? = some c → fol c q = true
  | b, [] => by simp [folls]
  | b, p :: r => by
    simp only [folls, Bool.and_eq_true]
    rw [folls_iff p r]
    constructor
    · rintro ⟨⟨h1, h2⟩, h3⟩ j q hj
      cases j with
      | zero =>
        simp at hj; subst hj
        exact ⟨h1, fun c hc => by simp at hc; subst hc; exact h2⟩
      | succ j => exact h3 j q (by simpa using hj)
    · intro h
      have h0 := h 0 p rfl
      exact ⟨⟨h0.1, h0.2 b rfl⟩, fun j q hj => h (j + 1) q (by simpa using hj)⟩
theorem psok_iff (ps : List Pt) : psok ps = true ↔ 0 < ps.length ∧ ∀ j, j < ps.length → At ps j := by
  cases ps with
  | nil => simp [psok]
  | cons p r =>
    simp only [psok, Bool.and_eq_true]
    rw [folls_iff]
    constructor
    · rintro ⟨h1, h2⟩
      refine ⟨by simp, fun j _ q hq => ?_⟩
      cases j with
      | zero => simp at hq; subst hq; exact ⟨h1, fun b hb => absurd hb (by omega)⟩
      | succ j =>
        have := h2 j q (by simpa using hq)
        exact ⟨this.1, fun b _ hb => this.2 b (by simpa using hb)⟩
    · rintro ⟨_, h⟩
      refine ⟨(h 0 (by simp) p rfl).1, fun j q hq => ?_⟩
      have hj := (List.getElem?_eq_some_iff.1 hq).1
      have := h (j + 1) (by simp; omega) q (by simpa using hq)
      exact ⟨this.1, fun c hc => this.2 c (by omega) (by simpa using hc)⟩
theorem ok_bd {q : Pt} (h : q.ok = true) : 0 ≤ q.a ∧ q.a ≤ 1000000 ∧ q.d.size ≤ 1000000 := by
  unfold Pt.ok Pt.e at h
  simp at h
  omega
/-- what the head says, where no part is at 0 -/
theorem str_empty (o : ByteArray) (h : o.size = 0) : o = ⟨#[]⟩ := ipm.bytes_ext (by
  have : o.data.toList.length = 0 := by simpa using h
  simpa using List.eq_nil_of_length_eq_zero this)
theorem str_full (o : ByteArray) (h : ¬ o.size = 0) : (o.toList == ([] : List UInt8)) = false := by
  rw [ByteArray.toList_eq]
  cases hl : o.data.toList with
  | nil =>
    have : o.data.toList.length = 0 := by rw [hl]; rfl
    exact absurd (by simpa using this) h
  | cons x r => rfl
set_option maxRecDepth 20000 in
set_option maxHeartbeats 8000000 in
/-- the loop of rightHeap -/
theorem heap_loop (hd : Hd) (b off sc n : Nat) (ps : List Pt) (p : Pt) (w : World) (hn : ps.length = n) (hp : ps[0]? = some p) (hm : n ≤ 9223372036854775807) (hb : b < w.heap.size) (hx : ∀ (j : Nat) x, ps[j]? = some x → ∀ i, i < 3 → w.cell? ⟨b, off + j * 3 + i, none⟩ = x.cells[i]?)
    (hz : p.a = 0 ∨ hdz hd = true) (hsz : ∀ q ∈ ps, q.d.size ≤ 9223372036854775807) :
    Calls Try.prog 36 #[.agg (hd.cells (.slice (some ⟨b, off, none⟩) n sc))] w fun e w' => e = .returned (.bool (psok ps)) ∧ Below w.heap.size w w' := by
  have hn0 : 0 < n := by have := (List.getElem?_eq_some_iff.1 hp).1; omega
  have F0 := Blk.new w (hd.cells (.slice (some ⟨b, off, none⟩) n sc)) 46
  have b0 := (Below.refl w.heap.size w).alloc (Nat.le_refl _) (.cells (hd.cells (.slice (some ⟨b, off, none⟩) n sc)) 46)
  have hb0 : b < (w.alloc (.cells (hd.cells (.slice (some ⟨b, off, none⟩) n sc)) 46)).heap.size := Nat.lt_trans hb F0.lt
  have hx0 : ∀ (j : Nat) x, ps[j]? = some x → ∀ i, i < 3 → (w.alloc (.cells (hd.cells (.slice (some ⟨b, off, none⟩) n sc)) 46)).cell? ⟨b, off + j * 3 + i, none⟩ = x.cells[i]? := fun j x hj i hi => (b0.cell (p := ⟨b, off + j * 3 + i, none⟩) hb).trans (hx j x hj i hi)
  have c0 := hx0 0 p hp 0 (by decide)
  have hne : b ≠ w.heap.size := by omega
  have hn0' : ¬ (n : Int) = 0 := by omega
  have hn0'' : (0 : Int) < n := by omega
  obtain ⟨h0, h1, h2, h3, h4, h5, h6⟩ := hd
  unfold hdz at hz
  simp only [Bool.and_eq_true, decide_eq_true_eq] at hz
  obtain ⟨pa, pd, pl⟩ := p
  simp only at hz
  simp at c0
  generalize hr : psok ps = R
  have HR : Hid (psok ps = R) := hr
  clear hx hr
  go_enter Try.func36, Try.ntmps36
  have key : ∀ (Q : Prop), ((pa = 0 → Q) ∧ (¬ pa = 0 → h4 = 0 → h5 = 0 → h6 = ⟨#[]⟩ → Q)) → Q := fun Q hQ => by
    by_cases hpa : pa = 0
    · exact hQ.1 hpa
    · rcases hz with hz | hz
      · exact absurd hz hpa
      · exact hQ.2 hpa hz.1 hz.2.1 (str_empty _ hz.2.2)
  clear hz
  apply key
  clear key
  refine ⟨?_, ?_⟩
  · intro hpa
    subst hpa
    go_wp2_with fail
    rw [show ((n : Int) == 0) = false by simpa using hn0']
    clear hn0' c0 hn0''
    generalize w.alloc (.cells (Hd.cells ⟨h0, h1, h2, h3, h4, h5, h6⟩ (.slice (some ⟨b, off, none⟩) n sc)) 46) = V at *
    go_loopw [33] (fun s33 wr => ∃ i : Nat, s33 = .int .i64 (i : Int) ∧ i ≤ n ∧ Hid (∀ j, j < i → At ps j) ∧ Below V.heap.size V wr) (fun i _ => n - (intOf i).toNat)
    case atStart => exact ⟨0, rfl, Nat.zero_le _, fun j hj => absurd hj (Nat.not_lt_zero _), Below.refl _ _⟩
    case round =>
      obtain ⟨i, rfl, hi, HA, bel⟩ := hrel
      have hB := bel.size
      have hx1 : ∀ (j : Nat) y, ps[j]? = some y → ∀ i, i < TK.k → wr.cell? ⟨b, off + j * TK.k + i, none⟩ = (TK.enc y)[i]? := fun j y hj i hi => (bel.cell (p := ⟨b, off + j * TK.k + i, none⟩) hb0).trans (hx0 j y hj i hi)
      have F1 := F0.below bel F0.lt
      by_cases hlt : i < n
      · obtain ⟨q, hq⟩ : ∃ q, ps[i]? = some q := ⟨ps[i]'(by omega), List.getElem?_eq_getElem (by omega)⟩
        have hlt' : (i : Int) < (n : Int) := by omega
        have hqm := hsz q (List.mem_of_getElem? hq)
        have CP := fun u => part_any q u hqm
        have B1 := Blk.new wr q.cells 49
        have F2 := F1.alloc (.cells q.cells 49)
        have bel2 := bel.alloc hB (.cells q.cells 49)
        have b02 := b0.trans (bel2.mono b0.size)
        have hx2 : ∀ (j : Nat) y, ps[j]? = some y → ∀ i, i < 3 → (wr.alloc (.cells q.cells 49)).cell? ⟨b, off + j * 3 + i, none⟩ = y.cells[i]? := fun j y hj i hi => (bel2.cell (p := ⟨b, off + j * 3 + i, none⟩) hb0).trans (hx0 j y hj i hi)
        have hb2 : b < (wr.alloc (.cells q.cells 49)).heap.size := Nat.lt_of_lt_of_le hb0 bel2.size
        go_upto_region 8 with (refine rd_load TK _ rfl _ rfl b off ps hx1 i _ rfl rfl q hq q.cells rfl _ Try.underlying49 rfl ?_)
        generalize wr.alloc (.cells q.cells 49) = U at *
        have nn := ab.ne U
        have cq := ab.cells B1
        have cF := ab.cells F2
        obtain ⟨P, hP⟩ : ∃ P, Hid (q.ok = P) := ⟨_, rfl⟩
        rw [hP.out] at CP
        cases i with
        | zero =>
          cases P with
          | false =>
            have hbad : R = false := by
              rw [← HR.out]
              by_cases hh : psok ps = true
              · have := ((psok_iff ps).1 hh).2 0 (by omega) q hq
                rw [hP.out] at this; exact absurd this.1 (by decide)
              · simpa using hh
            subst hbad
            clear HR HA hP hx0 hx1 hx2 hsz
            obtain ⟨qa, qd, ql⟩ := q
            refine ab.region (by kernel_rfl) (by kernel_rfl) ?_
            repeat (go_big_quiet_step ((go_at_call 63; exact ab.call (CP _))))
            refine wpQuiet_nil ?_
            intro _ hx
            obtain ⟨x, rfl⟩ := hx
            go_wp2_with fail
            go_ret
            exact ⟨rfl, b02.trans (Below.mono x.h b02.size)⟩
          | true =>
            have HA' : Hid (∀ j, j < 0 + 1 → At ps j) := fun j hj => by
              have : j = 0 := by omega
              subst this
              intro q' hq'
              rw [hq] at hq'
              obtain rfl := Option.some.inj hq'
              exact ⟨hP.out, fun _ h => absurd h (by omega)⟩
            clear HA hP hx0 hx1 hx2 hsz
            obtain ⟨qa, qd, ql⟩ := q
            refine ab.region (by kernel_rfl) (by kernel_rfl) ?_
            repeat (go_big_quiet_step ((go_at_call 63; exact ab.call (CP _))))
            refine wpQuiet_nil ?_
            intro _ hx
            obtain ⟨x, rfl⟩ := hx
            go_wp2_with fail
            go_roundw
            case rel => exact ⟨1, by simp, by omega, HA', bel2.trans (Below.mono x.h bel2.size)⟩
            case measure => simp [intOf]; omega
        | succ k =>
          obtain ⟨c, hc⟩ : ∃ c, ps[k]? = some c := ⟨ps[k]'(by omega), List.getElem?_eq_getElem (by omega)⟩
          have hcok := ok_bd (HA.out k (by omega) c hc).1
          have CF := fun u => foll_any c q u hcok.1 hcok.2.1 hcok.2.2
          have r0 := ab.cell (hx2 k c hc 0 (by decide)) hb2
          have r1 := ab.cell (hx2 k c hc 1 (by decide)) hb2
          have r2 := ab.cell (hx2 k c hc 2 (by decide)) hb2
          obtain ⟨E, hE⟩ : ∃ E, Hid (fol c q = E) := ⟨_, rfl⟩
          rw [hE.out] at CF
          have hk1 : ((k + 1 : Nat) : Int) - 1 = (k : Int) := by omega
          have hk2 : (k : Int) < (n : Int) := by omega
          have hk3 : k < n := by omega
          have hk4 : (0 : Int) < ((k + 1 : Nat) : Int) := by omega
          have hbad : (P = true → E = false) → R = false := fun hpe => by
            rw [← HR.out]
            by_cases hh : psok ps = true
            · have := ((psok_iff ps).1 hh).2 (k + 1) (by omega) q hq
              have h1 := this.1
              have h2 := this.2 c (by omega) hc
              rw [hP.out] at h1; rw [hE.out] at h2
              rw [hpe h1] at h2; cases h2
            · simpa using hh
          cases P with
          | false =>
            have hbd := hbad (fun h => by cases h)
            subst hbd
            clear HR HA hP hE hx0 hx1 hx2 hsz hcok hbad
            obtain ⟨qa, qd, ql⟩ := q
            refine ab.region (by kernel_rfl) (by kernel_rfl) ?_
            repeat (go_big_quiet_step ((go_at_call 63; exact ab.call (CP _))))
            refine wpQuiet_nil ?_
            intro _ hx
            obtain ⟨x, rfl⟩ := hx
            go_wp2_with fail
            go_ret
            exact ⟨rfl, b02.trans (Below.mono x.h b02.size)⟩
          | true =>
            have HA' : E = true → Hid (∀ j, j < k + 1 + 1 → At ps j) := fun hEt j hj => by
              by_cases hjk : j < k + 1
              · exact HA.out j hjk
              · have : j = k + 1 := by omega
                subst this
                intro q' hq'
                rw [hq] at hq'
                obtain rfl := Option.some.inj hq'
                refine ⟨hP.out, fun c' _ hc' => ?_⟩
                have : ps[k]? = some c' := hc'
                rw [hc] at this
                obtain rfl := Option.some.inj this
                rw [hE.out]; exact hEt
            have hbd := fun h => hbad (fun _ => h)
            clear HA hP hE hx0 hx1 hx2 hsz hcok hbad
            obtain ⟨qa, qd, ql⟩ := q
            obtain ⟨ca, cd, cl⟩ := c
            simp at r0 r1 r2
            refine ab.region (by kernel_rfl) (by kernel_rfl) ?_
            repeat (go_big_quiet_step (first | (go_at_call 63; exact ab.call (CP _)) | (go_at_call 64; exact ab.call (CF _))))
            refine wpQuiet_nil ?_
            intro _ hx
            obtain ⟨x, rfl⟩ := hx
            cases E with
            | false =>
              have := hbd rfl
              subst this
              go_wp2_with fail
              go_ret
              exact ⟨rfl, b02.trans (Below.mono x.h b02.size)⟩
            | true =>
              go_wp2_with fail
              go_roundw
              case rel => exact ⟨k + 2, by simp; omega, by omega, HA' (by simp), bel2.trans (Below.mono x.h bel2.size)⟩
              case measure => simp [intOf]; omega
      · have hin : i = n := by omega
        have hgood : R = true := by
          rw [← HR.out]
          exact (psok_iff ps).2 ⟨by omega, fun j hj => HA.out j (by omega)⟩
        subst hgood
        have hlt' : ¬ (i : Int) < (n : Int) := by omega
        have b01 := b0.trans (bel.mono b0.size)
        clear HR HA hx0 hx1 hsz
        go_wp2_with fail
        go_ret
        exact ⟨rfl, b01⟩
  · intro hpa e1 e2 e3
    subst e1 e2 e3
    go_wp2_with fail
    clear hn0' c0 hn0'' hpa
    generalize w.alloc (.cells (Hd.cells ⟨h0, h1, h2, h3, 0, 0, ⟨#[]⟩⟩ (.slice (some ⟨b, off, none⟩) n sc)) 46) = V at *
    go_loopw [33] (fun s33 wr => ∃ i : Nat, s33 = .int .i64 (i : Int) ∧ i ≤ n ∧ Hid (∀ j, j < i → At ps j) ∧ Below V.heap.size V wr) (fun i _ => n - (intOf i).toNat)
    case atStart => exact ⟨0, rfl, Nat.zero_le _, fun j hj => absurd hj (Nat.not_lt_zero _), Below.refl _ _⟩
    case round =>
      obtain ⟨i, rfl, hi, HA, bel⟩ := hrel
      have hB := bel.size
      have hx1 : ∀ (j : Nat) y, ps[j]? = some y → ∀ i, i < TK.k → wr.cell? ⟨b, off + j * TK.k + i, none⟩ = (TK.enc y)[i]? := fun j y hj i hi => (bel.cell (p := ⟨b, off + j * TK.k + i, none⟩) hb0).trans (hx0 j y hj i hi)
      have F1 := F0.below bel F0.lt
      by_cases hlt : i < n
      · obtain ⟨q, hq⟩ : ∃ q, ps[i]? = some q := ⟨ps[i]'(by omega), List.getElem?_eq_getElem (by omega)⟩
        have hlt' : (i : Int) < (n : Int) := by omega
        have hqm := hsz q (List.mem_of_getElem? hq)
        have CP := fun u => part_any q u hqm
        have B1 := Blk.new wr q.cells 49
        have F2 := F1.alloc (.cells q.cells 49)
        have bel2 := bel.alloc hB (.cells q.cells 49)
        have b02 := b0.trans (bel2.mono b0.size)
        have hx2 : ∀ (j : Nat) y, ps[j]? = some y → ∀ i, i < 3 → (wr.alloc (.cells q.cells 49)).cell? ⟨b, off + j * 3 + i, none⟩ = y.cells[i]? := fun j y hj i hi => (bel2.cell (p := ⟨b, off + j * 3 + i, none⟩) hb0).trans (hx0 j y hj i hi)
        have hb2 : b < (wr.alloc (.cells q.cells 49)).heap.size := Nat.lt_of_lt_of_le hb0 bel2.size
        go_upto_region 8 with (refine rd_load TK _ rfl _ rfl b off ps hx1 i _ rfl rfl q hq q.cells rfl _ Try.underlying49 rfl ?_)
        generalize wr.alloc (.cells q.cells 49) = U at *
        have nn := ab.ne U
        have cq := ab.cells B1
        have cF := ab.cells F2
        obtain ⟨P, hP⟩ : ∃ P, Hid (q.ok = P) := ⟨_, rfl⟩
        rw [hP.out] at CP
        cases i with
        | zero =>
          cases P with
          | false =>
            have hbad : R = false := by
              rw [← HR.out]
              by_cases hh : psok ps = true
              · have := ((psok_iff ps).1 hh).2 0 (by omega) q hq
                rw [hP.out] at this; exact absurd this.1 (by decide)
              · simpa using hh
            subst hbad
            clear HR HA hP hx0 hx1 hx2 hsz
            obtain ⟨qa, qd, ql⟩ := q
            refine ab.region (by kernel_rfl) (by kernel_rfl) ?_
            repeat (go_big_quiet_step ((go_at_call 63; exact ab.call (CP _))))
            refine wpQuiet_nil ?_
            intro _ hx
            obtain ⟨x, rfl⟩ := hx
            go_wp2_with fail
            go_ret
            exact ⟨rfl, b02.trans (Below.mono x.h b02.size)⟩
          | true =>
            have HA' : Hid (∀ j, j < 0 + 1 → At ps j) := fun j hj => by
              have : j = 0 := by omega
              subst this
              intro q' hq'
              rw [hq] at hq'
              obtain rfl := Option.some.inj hq'
              exact ⟨hP.out, fun _ h => absurd h (by omega)⟩
            clear HA hP hx0 hx1 hx2 hsz
            obtain ⟨qa, qd, ql⟩ := q
            refine ab.region (by kernel_rfl) (by kernel_rfl) ?_
            repeat (go_big_quiet_step ((go_at_call 63; exact ab.call (CP _))))
            refine wpQuiet_nil ?_
            intro _ hx
            obtain ⟨x, rfl⟩ := hx
            go_wp2_with fail
            go_roundw
            case rel => exact ⟨1, by simp, by omega, HA', bel2.trans (Below.mono x.h bel2.size)⟩
            case measure => simp [intOf]; omega
        | succ k =>
          obtain ⟨c, hc⟩ : ∃ c, ps[k]? = some c := ⟨ps[k]'(by omega), List.getElem?_eq_getElem (by omega)⟩
          have hcok := ok_bd (HA.out k (by omega) c hc).1
          have CF := fun u => foll_any c q u hcok.1 hcok.2.1 hcok.2.2
          have r0 := ab.cell (hx2 k c hc 0 (by decide)) hb2
          have r1 := ab.cell (hx2 k c hc 1 (by decide)) hb2
          have r2 := ab.cell (hx2 k c hc 2 (by decide)) hb2
          obtain ⟨E, hE⟩ : ∃ E, Hid (fol c q = E) := ⟨_, rfl⟩
          rw [hE.out] at CF
          have hk1 : ((k + 1 : Nat) : Int) - 1 = (k : Int) := by omega
          have hk2 : (k : Int) < (n : Int) := by omega
          have hk3 : k < n := by omega
          have hk4 : (0 : Int) < ((k + 1 : Nat) : Int) := by omega
          have hbad : (P = true → E = false) → R = false := fun hpe => by
            rw [← HR.out]
            by_cases hh : psok ps = true
            · have := ((psok_iff ps).1 hh).2 (k + 1) (by omega) q hq
              have h1 := this.1
              have h2 := this.2 c (by omega) hc
              rw [hP.out] at h1; rw [hE.out] at h2
              rw [hpe h1] at h2; cases h2
            · simpa using hh
          cases P with
          | false =>
            have hbd := hbad (fun h => by cases h)
            subst hbd
            clear HR HA hP hE hx0 hx1 hx2 hsz hcok hbad
            obtain ⟨qa, qd, ql⟩ := q
            refine ab.region (by kernel_rfl) (by kernel_rfl) ?_
            repeat (go_big_quiet_step ((go_at_call 63; exact ab.call (CP _))))
            refine wpQuiet_nil ?_
            intro _ hx
            obtain ⟨x, rfl⟩ := hx
            go_wp2_with fail
            go_ret
            exact ⟨rfl, b02.trans (Below.mono x.h b02.size)⟩
          | true =>
            have HA' : E = true → Hid (∀ j, j < k + 1 + 1 → At ps j) := fun hEt j hj => by
              by_cases hjk : j < k + 1
              · exact HA.out j hjk
              · have : j = k + 1 := by omega
                subst this
                intro q' hq'
                rw [hq] at hq'
                obtain rfl := Option.some.inj hq'
                refine ⟨hP.out, fun c' _ hc' => ?_⟩
                have : ps[k]? = some c' := hc'
                rw [hc] at this
                obtain rfl := Option.some.inj this
                rw [hE.out]; exact hEt
            have hbd := fun h => hbad (fun _ => h)
            clear HA hP hE hx0 hx1 hx2 hsz hcok hbad
            obtain ⟨qa, qd, ql⟩ := q
            obtain ⟨ca, cd, cl⟩ := c
            simp at r0 r1 r2
            refine ab.region (by kernel_rfl) (by kernel_rfl) ?_
            repeat (go_big_quiet_step (first | (go_at_call 63; exact ab.call (CP _)) | (go_at_call 64; exact ab.call (CF _))))
            refine wpQuiet_nil ?_
            intro _ hx
            obtain ⟨x, rfl⟩ := hx
            cases E with
            | false =>
              have := hbd rfl
              subst this
              go_wp2_with fail
              go_ret
              exact ⟨rfl, b02.trans (Below.mono x.h b02.size)⟩
            | true =>
              go_wp2_with fail
              go_roundw
              case rel => exact ⟨k + 2, by simp; omega, by omega, HA' (by simp), bel2.trans (Below.mono x.h bel2.size)⟩
              case measure => simp [intOf]; omega
      · have hin : i = n := by omega
        have hgood : R = true := by
          rw [← HR.out]
          exact (psok_iff ps).2 ⟨by omega, fun j hj => HA.out j (by omega)⟩
        subst hgood
        have hlt' : ¬ (i : Int) < (n : Int) := by omega
        have b01 := b0.trans (bel.mono b0.size)
        clear HR HA hx0 hx1 hsz
        go_wp2_with fail
        go_ret
        exact ⟨rfl, b01⟩
set_option maxHeartbeats 2000000 in
theorem heap_any (x : Hv) (ps : List Pt) (w : World) (hr : Rd TK w x.sl ps) (hsz : ∀ q ∈ ps, q.d.size ≤ 9223372036854775807) :
    Calls Try.prog 36 #[.agg x.cells] w fun e w' => e = .returned (.bool (Hp.ok ⟨x.h, ps⟩)) ∧ Below w.heap.size w w' := by
  obtain ⟨sa, sc, he, hm, hn, hc⟩ := hr
  obtain ⟨hd, xa, xn, xc⟩ := x
  simp only [Hv.sl, Value.slice.injEq] at he
  obtain ⟨rfl, rfl, rfl⟩ := he
  show Calls Try.prog 36 #[.agg (hd.cells (.slice xa ps.length xc))] w fun e w' => e = .returned (.bool (Hp.ok ⟨hd, ps⟩)) ∧ _
  cases hps : ps with
  | nil =>
    obtain ⟨h0, h1, h2, h3, h4, h5, h6⟩ := hd
    have b0 := (Below.refl w.heap.size w).alloc (Nat.le_refl _) (.cells (Hd.cells ⟨h0, h1, h2, h3, h4, h5, h6⟩ (.slice xa 0 xc)) 46)
    go_enter Try.func36, Try.ntmps36
    go_wp2_with fail
    go_ret
    exact ⟨rfl, b0⟩
  | cons p r =>
    have hp : ps[0]? = some p := by rw [hps]; rfl
    have hl : 0 < ps.length := by rw [hps]; simp
    obtain ⟨b, off, rfl, hb, hx⟩ := hc hl
    by_cases hz : p.a = 0 ∨ hdz hd = true
    · have e : Hp.ok ⟨hd, p :: r⟩ = psok ps := by
        unfold Hp.ok
        rw [hps]
        simp only
        have : (decide (p.a = 0) || hdz hd) = true := by simpa using hz
        rw [this, Bool.and_true]
      rw [e, ← hps]
      exact heap_loop hd b off xc ps.length ps p w rfl hp (by unfold maxLen at hm; omega) hb hx hz hsz
    · have e : Hp.ok ⟨hd, p :: r⟩ = false := by
        unfold Hp.ok
        simp only
        have : (decide (p.a = 0) || hdz hd) = false := by simpa using hz
        rw [this, Bool.and_false]
      rw [e, ← hps]
      have c0 := hx 0 p hp 0 (by decide)
      have hl' : ¬ (ps.length : Int) = 0 := by omega
      have hl2 : (0 : Int) < (ps.length : Int) := by omega
      have hne : b ≠ w.heap.size := by omega
      generalize ps.length = n at *
      obtain ⟨h0, h1, h2, h3, h4, h5, h6⟩ := hd
      obtain ⟨pa, pd, pl⟩ := p
      have hpa : ¬ pa = 0 := fun h => hz (Or.inl h)
      have hh : ¬ h4 = 0 ∨ ¬ h5 = 0 ∨ ¬ h6.size = 0 := by
        by_cases k1 : h4 = 0
        · by_cases k2 : h5 = 0
          · by_cases k3 : h6.size = 0
            · exact absurd (Or.inr (by simp [hdz, k1, k2, k3])) hz
            · exact Or.inr (Or.inr k3)
          · exact Or.inr (Or.inl k2)
        · exact Or.inl k1
      have b0 := (Below.refl w.heap.size w).alloc (Nat.le_refl _) (.cells (Hd.cells ⟨h0, h1, h2, h3, h4, h5, h6⟩ (.slice (some ⟨b, off, none⟩) n xc)) 46)
      have c1 : (w.alloc (.cells (Hd.cells ⟨h0, h1, h2, h3, h4, h5, h6⟩ (.slice (some ⟨b, off, none⟩) n xc)) 46)).cell? ⟨b, off, none⟩ = some (.int .i64 pa) := (b0.cell (p := ⟨b, off, none⟩) hb).trans (by simpa [TK] using c0)
      have q1 : (pa != 0) = true := by simpa using hpa
      clear hx hc hz hps hp hsz e c0 hm hn hpa
      go_enter Try.func36, Try.ntmps36
      by_cases k1 : h4 = 0
      · subst k1
        by_cases k2 : h5 = 0
        · subst k2
          have k3 : ¬ h6.size = 0 := by omega
          have k4 := str_full h6 k3
          clear hh
          go_wp2_with fail
          go_ret
          exact ⟨rfl, b0⟩
        · have k4 : (h5 != 0) = true := by simpa using k2
          clear hh
          go_wp2_with fail
          go_ret
          exact ⟨rfl, b0⟩
      · have k4 : (h4 != 0) = true := by simpa using k1
        clear hh
        go_wp2_with fail
        go_ret
        exact ⟨rfl, b0⟩
end Go.Proofs.Ytlbpapngcgnepaa.frr
