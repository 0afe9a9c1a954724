/- What custref.PoolRight answers: the same as frag.Check. -/
import Derived.Test.YtlbpapngcgnepaaFragRR
import Derived.Deep.DeepCutAuto
namespace Go.Proofs.Ytlbpapngcgnepaa.frpr
open Go.ChangeShapes Go.WideShapes Go.ChangeAt Go.RowKit Go.BigFrame
open Go.Proofs.Ytlbpapngcgnepaa Go.Proofs.Ytlbpapngcgnepaa.ipb Go.Proofs.Ytlbpapngcgnepaa.boxes Go.Proofs.Ytlbpapngcgnepaa.ipr Go.Proofs.Ytlbpapngcgnepaa.frb Go.Proofs.Ytlbpapngcgnepaa.frs Go.Proofs.Ytlbpapngcgnepaa.frp Go.Proofs.Ytlbpapngcgnepaa.frx Go.Proofs.Ytlbpapngcgnepaa.frr Go.Proofs.Ytlbpapngcgnepaa.frc Go.Proofs.Ytlbpapngcgnepaa.frrr
open Go.Proofs.Ytlbpapngcgnepaa.rws (Own Knd)

theorem drop_cons {ps : List Pt} {k : Nat} {q : Pt} (h : ps[k]? = some q) : ps.drop k = q :: ps.drop (k + 1) := by
  obtain ⟨h1, h2⟩ := List.getElem?_eq_some_iff.1 h
  rw [List.drop_eq_getElem_cons h1, h2]
theorem drop_empty {ps : List Pt} {k : Nat} : (ps.drop (k + 1)).isEmpty = !decide (k + 1 < ps.length) := by
  by_cases h : k + 1 < ps.length
  · rw [decide_eq_true h]
    have : (ps.drop (k + 1)) ≠ [] := by simp; omega
    cases hd : ps.drop (k + 1) with
    | nil => exact absurd hd this
    | cons a b => rfl
  · rw [decide_eq_false h, List.drop_eq_nil_of_le (by omega)]; rfl
theorem str_none (d : ByteArray) (h : d.size = 0) : d = ⟨#[]⟩ := ipm.bytes_ext (by
  have : d.data.toList.length = 0 := by simpa using h
  rw [List.length_eq_zero_iff] at this
  rw [this])
theorem rr_cons (t qa : Int) (qd : ByteArray) (ql : Bool) (r : List Pt) : rr t (⟨qa, qd, ql⟩ :: r) = (((decide (qd.size ≠ 0) && (decide (t ≤ qa) && (decide (qa % 8 = 0) && decide (qa + qd.size ≤ 65515)))) && ((!ql || r.isEmpty) && (ql || decide (qd.size % 8 = 0)))) && rr (qa + qd.size) r) := rfl
set_option maxRecDepth 20000 in
set_option maxHeartbeats 16000000 in
theorem right_some (b off sc n : Nat) (L : List Hp) (X : List Hv) (w : World) (hn : X.length = n) (hln : L.length = n) (hn0 : 0 < n) (hm : n ≤ 9223372036854775807) (hcap : n ≤ sc) (hb : b < w.heap.size) (hx : ∀ (j : Nat) x, X[j]? = some x → ∀ i, i < 8 → w.cell? ⟨b, off + j * 8 + i, none⟩ = x.cells[i]?)
    (hXL : ∀ (j : Nat) x (h : Hp), X[j]? = some x → L[j]? = some h → x.h = h.h ∧ Rd TK w x.sl h.ps) (hsz : ∀ x ∈ L, ∀ q ∈ x.ps, q.d.size ≤ 9223372036854700000) :
    Calls Try.prog 15 #[.slice (some ⟨b, off, none⟩) n sc] w fun e w' => e = .returned (.int .i64 (perr L)) ∧ Below w.heap.size w w' := by
  obtain ⟨R, hR⟩ : ∃ R, Hid (perr L = R) := ⟨_, rfl⟩
  rw [hR.out]
  by_cases h16 : 16 < n
  · have e : R = 2 := by
      rw [← hR.out]; unfold perr bigP
      rw [decide_eq_true (show 16 < L.length by omega)]; rfl
    subst e
    have h16' : decide (16 < (n : Int)) = true := by simp; omega
    go_enter Try.func15, Try.ntmps15
    go_wp2_with fail
    go_ret
    exact ⟨rfl, Below.refl _ _⟩
  have h16' : decide (16 < (n : Int)) = false := by simp; omega
  have hel : ∀ (i : Nat), i < n → ∃ x h, X[i]? = some x ∧ L[i]? = some h ∧ x.h = h.h ∧ Rd TK w x.sl h.ps := fun i hi => by
    have e1 : X[i]? = some (X[i]'(by omega)) := List.getElem?_eq_getElem (by omega)
    have e2 : L[i]? = some (L[i]'(by omega)) := List.getElem?_eq_getElem (by omega)
    exact ⟨_, _, e1, e2, hXL i _ _ e1 e2⟩
  have CB := big_any b off sc X w (by omega) hb hx
  rw [hn] at CB
  have hbig : bigP L = X.any fun x => decide (64 < (x.sn : Int)) := by
    unfold bigP
    rw [decide_eq_false (show ¬ 16 < L.length by omega), Bool.false_or]
    rw [Bool.eq_iff_iff, List.any_eq_true, List.any_eq_true]
    constructor
    · rintro ⟨y, hy, hb⟩
      obtain ⟨j, hj⟩ := List.getElem?_of_mem hy
      obtain ⟨x, h, ex, eh, _, rx⟩ := hel j (by have := (List.getElem?_eq_some_iff.1 hj).1; omega)
      rw [hj] at eh
      obtain rfl := Option.some.inj eh
      refine ⟨x, List.mem_of_getElem? ex, ?_⟩
      have := sn_of rx
      simp at hb ⊢; omega
    · rintro ⟨x, hy, hb⟩
      obtain ⟨j, hj⟩ := List.getElem?_of_mem hy
      obtain ⟨x', h, ex, eh, _, rx⟩ := hel j (by have := (List.getElem?_eq_some_iff.1 hj).1; omega)
      rw [hj] at ex
      obtain rfl := Option.some.inj ex
      refine ⟨h, List.mem_of_getElem? eh, ?_⟩
      have := sn_of rx
      simp at hb ⊢; omega
  rw [← hbig] at CB
  obtain ⟨BG, hBG⟩ : ∃ BG, Hid (bigP L = BG) := ⟨_, rfl⟩
  rw [hBG.out] at CB
  clear hbig
  go_enter Try.func15, Try.ntmps15
  go_wp2_with fail
  refine CB.mono ?_
  rintro e w1 ⟨rfl, bel1⟩
  clear CB
  cases BG with
  | true =>
    have e : R = 2 := by rw [← hR.out]; unfold perr; rw [if_pos hBG.out]
    subst e
    go_wp2_with fail
    go_ret
    exact ⟨rfl, bel1⟩
  | false =>
    have hpe : Hid (R = if okFrom [] L = true then 0 else 4) := by show _ = _; rw [← hR.out]; unfold perr; rw [if_neg (by rw [hBG.out]; decide)]
    clear hR hBG h16 h16'
    go_wp2_with fail
    go_loopw [20] (fun s20 wr => ∃ i : Nat, s20 = .int .i64 (i : Int) ∧ i ≤ n ∧ Hid (∀ j, j < i → AtH L j) ∧ Below w.heap.size w wr) (fun i _ => n - (intOf i).toNat)
    case atStart => exact ⟨0, rfl, Nat.zero_le _, fun j hj => absurd hj (Nat.not_lt_zero _), bel1⟩
    case round =>
      obtain ⟨i, rfl, hi, HA, bel⟩ := hrel
      have hB := bel.size
      clear bel1
      by_cases hlt : i < n
      · obtain ⟨x, h, ex, eh, exh, rx⟩ := hel i hlt
        have hlt' : (i : Int) < (n : Int) := by omega
        have hx1 : ∀ (j : Nat) y, X[j]? = some y → ∀ i, i < HK.k → wr.cell? ⟨b, off + j * HK.k + i, none⟩ = (HK.enc y)[i]? := fun j y hj i hi => (bel.cell (p := ⟨b, off + j * HK.k + i, none⟩) hb).trans (hx j y hj i hi)
        have bel2 := bel.alloc hB (.cells x.cells 46)
        have B1 := Blk.new wr x.cells 46
        have RP := rx.below bel2
        have hbad : h.ok = false → Hid (R = 4) := fun hk => by
          show _ = _
          rw [hpe.out, if_neg]
          intro hh
          have := (ok_all L).1 hh i (by omega) h eh
          rw [hk] at this; exact absurd this.1 (by decide)
        have hpsz := hsz h (List.mem_of_getElem? eh)
        obtain ⟨xa, xc, hsl, hpm, hfm, hpc⟩ := RP
        obtain ⟨xh, xa', xn', xc'⟩ := x
        simp only [Hv.sl, Value.slice.injEq] at hsl
        obtain ⟨rfl, rfl, rfl⟩ := hsl
        simp only at exh
        have Hxh : Hid (xh = h.h) := exh
        clear exh rx
        obtain ⟨np, hnp⟩ : ∃ np, h.ps.length = np := ⟨_, rfl⟩
        have hpm' : np ≤ 9223372036854775807 := by unfold maxLen at hpm; omega
        rw [hnp] at hpc ex B1 bel2 hfm
        have HPC : Hid _ := hpc
        have HP : Hid (h.ps.length = np) := hnp
        clear hnp hpm hfm hpc
        go_wp2_with (refine rd_load HK _ rfl _ rfl b off X hx1 i _ rfl rfl _ ex (Hv.cells ⟨xh, xa', np, xc'⟩) rfl _ Try.underlying46 rfl ?_)
        generalize wr.alloc (.cells (Hv.cells ⟨xh, xa', np, xc'⟩) 46) = U at *
        go_loopw [5, 28] (fun s5 s28 wr => ∃ (k : Nat) (t : Int), s28 = .int .i64 (k : Int) ∧ s5 = .int .i64 t ∧ k ≤ np ∧ 0 ≤ t ∧ t ≤ 65515 ∧ Hid (rr 0 h.ps = rr t (h.ps.drop k)) ∧ Below U.heap.size U wr) (fun _ i _ => np - (intOf i).toNat)
        case atStart => exact ⟨0, 0, rfl, rfl, Nat.zero_le _, by omega, by omega, (rfl : _ = _), Below.refl _ _⟩
        case round =>
          obtain ⟨k, t, rfl, rfl, hkn, ht0, ht1, HK, bel3⟩ := hrel
          by_cases hk : k < np
          · obtain ⟨q, hq⟩ : ∃ q, h.ps[k]? = some q := ⟨h.ps[k]'(by rw [HP.out]; exact hk), List.getElem?_eq_getElem _⟩
            obtain ⟨pb, poff, exa, hpb, hpx⟩ := HPC.out (by omega)
            subst exa
            have hpx1 : ∀ (j : Nat) y, h.ps[j]? = some y → ∀ i, i < TK.k → wr.cell? ⟨pb, poff + j * TK.k + i, none⟩ = (TK.enc y)[i]? := fun j y hj i hi => (bel3.cell (p := ⟨pb, poff + j * TK.k + i, none⟩) hpb).trans (hpx j y hj i hi)
            have hqs := hpsz q (List.mem_of_getElem? hq)
            have hk' : (k : Int) < (np : Int) := by omega
            have B3 := B1.below bel3 B1.lt
            have cB := B3.cell
            have lB := B3.lt
            obtain ⟨qa, qd, ql⟩ := q
            simp only at hqs
            have bel4 := bel2.trans (bel3.mono bel2.size)
            have bel6 := bel4.alloc bel4.size (.cells (Pt.cells ⟨qa, qd, ql⟩) 49)
            have bel5 := bel3.alloc bel3.size (.cells (Pt.cells ⟨qa, qd, ql⟩) 49)
            have hval : rr 0 h.ps = (((decide (qd.size ≠ 0) && (decide (t ≤ qa) && (decide (qa % 8 = 0) && decide (qa + qd.size ≤ 65515)))) && ((!ql || !decide (k + 1 < np)) && (ql || decide (qd.size % 8 = 0)))) && rr (qa + qd.size) (h.ps.drop (k + 1))) := by
              rw [HK.out, drop_cons hq]
              rw [rr_cons]
              rw [drop_empty, HP.out]
            have hno : rr 0 h.ps = false → h.ok = false := fun hh => by
              cases hk0 : h.ok
              · rfl
              · have := ((hp_ok h.h h.ps).1 hk0).1
                rw [hh] at this; cases this
            go_upto_region 10 with (refine rd_load TK _ rfl _ rfl pb poff h.ps hpx1 k _ rfl rfl _ hq (Pt.cells ⟨qa, qd, ql⟩) rfl _ Try.underlying49 rfl ?_)
            clear hpx1 hpx HPC HP hXL hel hx hx1 hsz hpsz hq ex eh
            by_cases c1 : qd.size = 0
            · have d1 : (qd.toList == ([] : List UInt8)) = true := by rw [str_none qd c1]; simp [ByteArray.toList_eq]
              have e4 := (hbad (hno (by rw [hval]; simp [c1]))).out
              subst e4
              clear hbad hval hno hpe HA HK
              go_wp2_with fail
              go_ret
              exact ⟨rfl, bel6⟩
            have d1 := str_full qd c1
            by_cases c2 : t ≤ qa
            case neg =>
              have d2 : decide (t ≤ qa) = false := decide_eq_false c2
              have e4 := (hbad (hno (by rw [hval]; simp [c2]))).out
              subst e4
              clear hbad hval hno hpe HA HK
              go_wp2_with fail
              go_ret
              exact ⟨rfl, bel6⟩
            have d2 : decide (t ≤ qa) = true := decide_eq_true c2
            have qa0 : 0 ≤ qa := by omega
            by_cases c3 : qa % 8 = 0
            case neg =>
              have d3 : (qa % 8 == 0) = false := by simpa using c3
              have e4 := (hbad (hno (by rw [hval]; simp [c3]))).out
              subst e4
              clear hbad hval hno hpe HA HK
              go_wp2_with fail
              go_ret
              exact ⟨rfl, bel6⟩
            have d3 : (qa % 8 == 0) = true := by simpa using c3
            by_cases c4 : qa ≤ 65515
            case neg =>
              have d4 : decide (qa ≤ 65515) = false := decide_eq_false c4
              have c5 : ¬ qa + (qd.size : Int) ≤ 65515 := by omega
              have e4 := (hbad (hno (by rw [hval]; simp [c5]))).out
              subst e4
              clear hbad hval hno hpe HA HK
              go_wp2_with fail
              go_ret
              exact ⟨rfl, bel6⟩
            have d4 : decide (qa ≤ 65515) = true := decide_eq_true c4
            by_cases c5 : qa + (qd.size : Int) ≤ 65515
            case neg =>
              have d5 : decide (qa + (qd.size : Int) ≤ 65515) = false := decide_eq_false c5
              have e4 := (hbad (hno (by rw [hval]; simp [c5]))).out
              subst e4
              clear hbad hval hno hpe HA HK
              go_wp2_with fail
              go_ret
              exact ⟨rfl, bel6⟩
            have d5 : decide (qa + (qd.size : Int) ≤ 65515) = true := decide_eq_true c5
            cases ql with
            | true =>
              by_cases c7 : k + 1 < np
              · have d7 : decide ((k : Int) + 1 < (np : Int)) = true := by simp; omega
                have e4 := (hbad (hno (by rw [hval]; simp [c7]))).out
                subst e4
                clear hbad hval hno hpe HA HK
                go_wp2_with fail
                go_ret
                exact ⟨rfl, bel6⟩
              · have d7 : decide ((k : Int) + 1 < (np : Int)) = false := by simp; omega
                have hn2 : Hid (rr 0 h.ps = rr (qa + qd.size) (h.ps.drop (k + 1))) := by
                  show _ = _
                  rw [hval]; simp [c1, c2, c3, c5, c7]
                clear hbad hval hno hpe HA HK
                go_wp2_with fail
                go_roundw
                case rel => exact ⟨k + 1, qa + qd.size, by simp, rfl, by omega, by omega, by omega, hn2, bel5⟩
                case measure => simp [intOf]; omega
            | false =>
              by_cases c8 : qd.size % 8 = 0
              · have d8 : decide (0 < (qd.size : Int) % 8) = false := by simp; omega
                have hn2 : Hid (rr 0 h.ps = rr (qa + qd.size) (h.ps.drop (k + 1))) := by
                  show _ = _
                  rw [hval]; simp [c1, c2, c3, c5, c8]
                clear hbad hval hno hpe HA HK
                go_wp2_with fail
                go_roundw
                case rel => exact ⟨k + 1, qa + qd.size, by simp, rfl, by omega, by omega, by omega, hn2, bel5⟩
                case measure => simp [intOf]; omega
              · have d8 : decide (0 < (qd.size : Int) % 8) = true := by simp; omega
                have e4 := (hbad (hno (by rw [hval]; simp [c8]))).out
                subst e4
                clear hbad hval hno hpe HA HK
                go_wp2_with fail
                go_ret
                exact ⟨rfl, bel6⟩
          · have hkn' : decide ((k : Int) < (np : Int)) = false := by simp; omega
            have hk' : ¬ (k : Int) < (np : Int) := by omega
            have HRT : Hid (rr 0 h.ps = true) := by
              show _ = _
              rw [HK.out, List.drop_eq_nil_of_le (by rw [HP.out]; omega)]; rfl
            obtain ⟨Z, hZ⟩ : ∃ Z : Bool, Hid (Z = !h.ok) := ⟨_, rfl⟩
            have B3 := B1.below bel3 B1.lt
            have cB := B3.cell
            have lB := B3.lt
            have bel4 := bel2.trans (bel3.mono bel2.size)
            have hzt : h.ok = false → Hid (Z = true) := fun e => by show _ = _; rw [hZ.out, e]; rfl
            have hzf : h.ok = true → Hid (Z = false) := fun e => by show _ = _; rw [hZ.out, e]; rfl
            clear HK ht0 ht1
            go_upto_region 15 with fail
            go_cut [121] (fun c wx => c = .bool Z ∧ wx = wr)
            case first =>
              by_cases np0 : np = 0
              · have n0 : ((np : Int) == 0) = true := by simp [np0]
                have z1 := hzt (by
                  cases hk0 : h.ok
                  · rfl
                  · obtain ⟨_, p, r, e, _⟩ := (hp_ok h.h h.ps).1 hk0
                    have := HP.out
                    rw [e] at this; simp at this; omega)
                clear np0 hzt hzf hZ
                go_wp2_with fail
                go_meet
                exact ⟨by rw [z1.out], rfl⟩
              · have n0 : ((np : Int) == 0) = false := by simp [np0]
                have n1 : (0 : Int) < (np : Int) := by omega
                obtain ⟨pb, poff, exa, hpb, hpx⟩ := HPC.out (by omega)
                subst exa
                obtain ⟨q, hq⟩ : ∃ q, h.ps[0]? = some q := ⟨h.ps[0]'(by rw [HP.out]; omega), List.getElem?_eq_getElem _⟩
                have hq0 : wr.cell? ⟨pb, poff, none⟩ = some (.int .i64 q.a) := by
                  have e1 := hpx 0 q hq 0 (by decide)
                  have e2 := bel3.cell (p := ⟨pb, poff + 0 * TK.k + 0, none⟩) hpb
                  rw [e1] at e2
                  simpa [TK] using e2
                have hpb3 : pb < wr.heap.size := Nat.lt_of_lt_of_le hpb bel3.size
                obtain ⟨r, er⟩ : ∃ r, h.ps = q :: r := by
                  cases hps : h.ps with
                  | nil => rw [hps] at hq; simp at hq
                  | cons a r => rw [hps] at hq; simp at hq; exact ⟨r, by rw [hq]⟩
                have qa0 : 0 ≤ q.a := by
                  rcases (rr_iff h.ps 0 (by omega)).1 HRT.out with e | ⟨p', r', e, h1, _⟩
                  · rw [er] at e; simp at e
                  · rw [er] at e; simp only [List.cons.injEq] at e; rw [e.1]; exact h1
                have hzi : h.ok = true ↔ (q.a = 0 ∨ hdz h.h = true) := by
                  rw [show h.ok = Hp.ok ⟨h.h, h.ps⟩ from rfl, hp_ok]
                  constructor
                  · rintro ⟨_, p', r', e, hor⟩
                    rw [er] at e; simp only [List.cons.injEq] at e; rw [e.1]; exact hor
                  · intro hor
                    exact ⟨HRT.out, q, r, er, hor⟩
                rw [← Hxh.out] at hzi
                have hdi : hdz xh = true ↔ xh.tos = 0 ∧ xh.li = 0 ∧ xh.o.size = 0 := by simp [hdz]
                have HZI : Hid (h.ok = true ↔ (q.a = 0 ∨ (xh.tos = 0 ∧ xh.li = 0 ∧ xh.o.size = 0))) := by show _ ↔ _; rw [hzi, hdi]
                generalize q.a = qa at *
                clear hzi hdi er hq hpx HPC HRT hZ np0
                obtain ⟨h0, h1, h2, h3, h4, h5, h6⟩ := xh
                simp only at HZI
                have cB' : ∀ o, wr.cell? ⟨_, o, none⟩ = (#[.int .u32 h0, .int .u32 h1, .int .i64 h2, .int .i64 h3, .int .i64 h4, .int .i64 h5, .string h6, .slice (some ⟨pb, poff, none⟩) np xc'] : Array Value)[o]? := cB
                clear cB B3
                have fls : ¬ (qa = 0 ∨ (h4 = 0 ∧ h5 = 0 ∧ h6.size = 0)) → Hid (Z = true) := fun hn => hzt (by
                  cases hk0 : h.ok
                  · rfl
                  · exact absurd (HZI.out.1 hk0) hn)
                by_cases a0 : qa = 0
                · have d0 : decide (0 < qa) = false := by simp; omega
                  have z1 := hzf (HZI.out.2 (Or.inl a0))
                  clear a0 hzt hzf fls HZI
                  go_wp2_with fail
                  go_meet
                  exact ⟨by rw [z1.out], rfl⟩
                have d0 : decide (0 < qa) = true := by simp; omega
                by_cases k4 : h4 = 0
                case neg =>
                  have e4 : (h4 != 0) = true := by simpa using k4
                  have z1 := fls (by rintro (e | e); exact a0 e; exact k4 e.1)
                  clear a0 hzt hzf fls HZI k4
                  go_wp2_with fail
                  go_meet
                  exact ⟨by rw [z1.out], rfl⟩
                by_cases k5 : h5 = 0
                case neg =>
                  have e4 : (h4 != 0) = false := by simpa using k4
                  have e5 : (h5 != 0) = true := by simpa using k5
                  have z1 := fls (by rintro (e | e); exact a0 e; exact k5 e.2.1)
                  clear a0 hzt hzf fls HZI k4 k5
                  go_wp2_with fail
                  go_meet
                  exact ⟨by rw [z1.out], rfl⟩
                have e4 : (h4 != 0) = false := by simpa using k4
                have e5 : (h5 != 0) = false := by simpa using k5
                by_cases k6 : h6.size = 0
                case neg =>
                  have e6 := str_full h6 k6
                  have z1 := fls (by rintro (e | e); exact a0 e; exact k6 e.2.2)
                  clear a0 hzt hzf fls HZI k4 k5 k6
                  go_wp2_with fail
                  go_meet
                  exact ⟨by rw [z1.out], rfl⟩
                have e6 : (h6.toList == ([] : List UInt8)) = true := by rw [str_none h6 k6]; simp [ByteArray.toList_eq]
                have z1 := hzf (HZI.out.2 (Or.inr ⟨k4, k5, k6⟩))
                clear a0 hzt hzf fls HZI k4 k5 k6
                go_wp2_with fail
                go_meet
                exact ⟨by rw [z1.out], rfl⟩
            case rest =>
              obtain ⟨rfl, hwc⟩ := hcut
              rw [hwc]
              clear hwc hzt hzf HPC hpsz HRT
              cases Z with
              | true =>
                have e4 := (hbad (by have := hZ.out; simpa using this.symm)).out
                subst e4
                clear hbad hZ hpe HA
                go_wp2_with fail
                go_ret
                exact ⟨rfl, bel4⟩
              | false =>
                have hok : h.ok = true := by have := hZ.out; simpa using this.symm
                clear hZ hbad
                have hic : i ≤ sc := by omega
                have hic' : (i : Int) ≤ (sc : Int) := by omega
                have hsl := fun u => slice_to n i sc b off hic u
                have HOK : Hid (h.ok = true) := hok
                have hfnd : ∀ (j : Nat) y, j < i → L[j]? = some y → y.h.nm.eq h.h.nm = true → Hid (R = 4) := fun j y hj ey hn => by
                  show _ = _
                  rw [hpe.out, if_neg]
                  intro hh
                  have := ((ok_all L).1 hh i (by omega) h eh).2
                  rw [fnd_neg, List.any_eq_false] at this
                  refine this y.h ?_ hn
                  rw [List.mem_map]
                  exact ⟨y, List.mem_of_getElem? (i := j) (by rw [List.getElem?_take, if_pos hj]; exact ey), rfl⟩
                clear hok HP hk hkn hkn' hk'
                go_wp2_with fail
                generalize wr = V at *
                go_loopw [126] (fun s126 wr => ∃ m : Nat, s126 = .int .i64 (m : Int) ∧ m ≤ i ∧ Hid (∀ (j : Nat) y, j < m → L[j]? = some y → y.h.nm.eq h.h.nm = false) ∧ Below V.heap.size V wr) (fun q _ => i - (intOf q).toNat)
                case atStart => exact ⟨0, rfl, Nat.zero_le _, fun j _ hj => absurd hj (Nat.not_lt_zero _), Below.refl _ _⟩
                case round =>
                  obtain ⟨m, rfl, hmi, HM, bel5⟩ := hrel
                  have bel6 := bel4.trans (bel5.mono bel4.size)
                  by_cases hml : m < i
                  · obtain ⟨y, hy, ey, eyh, eyhh, _⟩ := hel m (by omega)
                    have hml' : (m : Int) < (i : Int) := by omega
                    have hx2 : ∀ (j : Nat) y, X[j]? = some y → ∀ i, i < HK.k → wr.cell? ⟨b, off + j * HK.k + i, none⟩ = (HK.enc y)[i]? := fun j y hj i hi => (bel6.cell (p := ⟨b, off + j * HK.k + i, none⟩) hb).trans (hx j y hj i hi)
                    have B5 := B3.below bel5 B3.lt
                    have cB5 := B5.cell
                    have lB5 := B5.lt
                    have bel7 := bel5.alloc bel5.size (.cells y.cells 46)
                    have bel8 := bel6.alloc bel6.size (.cells y.cells 46)
                    have Hyh : Hid (y.h = hy.h) := eyhh
                    clear cB lB eyhh
                    go_upto_region 20 with (refine rd_load HK _ rfl _ rfl b off X hx2 m _ rfl rfl y ey y.cells rfl _ Try.underlying46 rfl ?_)
                    have hnm : hy.h.nm.eq h.h.nm = (y.h.fr == xh.fr && (y.h.to == xh.to && (y.h.pr == xh.pr && y.h.id == xh.id))) := by rw [← Hyh.out, ← Hxh.out]; rfl
                    have nxt : hy.h.nm.eq h.h.nm = false → Hid (∀ (j : Nat) y, j < m + 1 → L[j]? = some y → y.h.nm.eq h.h.nm = false) := fun hh j y' hj e => by
                      by_cases hjm : j < m
                      · exact HM.out j y' hjm e
                      · have : j = m := by omega
                        subst this
                        rw [eyh] at e
                        obtain rfl := Option.some.inj e
                        exact hh
                    have hf4 := hfnd m hy hml eyh
                    clear Hyh Hxh hx2 ey ex hx hx1
                    obtain ⟨⟨g0, g1, g2, g3, g4, g5, g6⟩, ya, yn, yc⟩ := y
                    obtain ⟨h0, h1, h2, h3, h4, h5, h6⟩ := xh
                    simp only at hnm
                    by_cases f1 : g0 = h0
                    case neg =>
                      have f1' : (g0 == h0) = false := by simpa using f1
                      have HM2 : Hid (∀ (j : Nat) y, j < m + 1 → L[j]? = some y → y.h.nm.eq h.h.nm = false) := nxt (by rw [hnm]; simp [f1])
                      clear f1 hf4 nxt hnm hfnd hpe HA HM HOK hel hXL hsz eh eyh
                      go_wp2_with fail
                      go_roundw
                      case rel => exact ⟨m + 1, by simp, by omega, HM2, bel7⟩
                      case measure => simp [intOf]; omega
                    have f1' : (g0 == h0) = true := by simpa using f1
                    by_cases f2 : g1 = h1
                    case neg =>
                      have f2' : (g1 == h1) = false := by simpa using f2
                      have HM2 : Hid (∀ (j : Nat) y, j < m + 1 → L[j]? = some y → y.h.nm.eq h.h.nm = false) := nxt (by rw [hnm]; simp [f2])
                      clear f1 f2 hf4 nxt hnm hfnd hpe HA HM HOK hel hXL hsz eh eyh
                      go_wp2_with fail
                      go_roundw
                      case rel => exact ⟨m + 1, by simp, by omega, HM2, bel7⟩
                      case measure => simp [intOf]; omega
                    have f2' : (g1 == h1) = true := by simpa using f2
                    by_cases f3 : g2 = h2
                    case neg =>
                      have f3' : (g2 == h2) = false := by simpa using f3
                      have HM2 : Hid (∀ (j : Nat) y, j < m + 1 → L[j]? = some y → y.h.nm.eq h.h.nm = false) := nxt (by rw [hnm]; simp [f3])
                      clear f1 f2 f3 hf4 nxt hnm hfnd hpe HA HM HOK hel hXL hsz eh eyh
                      go_wp2_with fail
                      go_roundw
                      case rel => exact ⟨m + 1, by simp, by omega, HM2, bel7⟩
                      case measure => simp [intOf]; omega
                    have f3' : (g2 == h2) = true := by simpa using f3
                    by_cases f4 : g3 = h3
                    case neg =>
                      have f4' : (g3 == h3) = false := by simpa using f4
                      have HM2 : Hid (∀ (j : Nat) y, j < m + 1 → L[j]? = some y → y.h.nm.eq h.h.nm = false) := nxt (by rw [hnm]; simp [f4])
                      clear f1 f2 f3 f4 hf4 nxt hnm hfnd hpe HA HM HOK hel hXL hsz eh eyh
                      go_wp2_with fail
                      go_roundw
                      case rel => exact ⟨m + 1, by simp, by omega, HM2, bel7⟩
                      case measure => simp [intOf]; omega
                    have f4' : (g3 == h3) = true := by simpa using f4
                    have e4 := (hf4 (by rw [hnm]; simp [f1, f2, f3, f4])).out
                    subst e4
                    clear f1 f2 f3 f4 hf4 nxt hnm hfnd hpe HA HM HOK hel hXL hsz eh eyh
                    go_wp2_with fail
                    go_ret
                    exact ⟨rfl, bel8⟩
                  · have hml' : ¬ (m : Int) < (i : Int) := by omega
                    have hml'' : decide ((m : Int) < (i : Int)) = false := by simp; omega
                    have HA2 : Hid (∀ j, j < i + 1 → AtH L j) := fun j hj => by
                      by_cases hji : j < i
                      · exact HA.out j hji
                      · have : j = i := by omega
                        subst this
                        intro y hy
                        rw [eh] at hy
                        obtain rfl := Option.some.inj hy
                        refine ⟨HOK.out, ?_⟩
                        rw [fnd_neg, List.any_eq_false]
                        intro y' hy'
                        obtain ⟨z, hz, rfl⟩ := List.mem_map.1 hy'
                        obtain ⟨a, ha⟩ := List.getElem?_of_mem hz
                        rw [List.getElem?_take] at ha
                        split at ha
                        · rw [HM.out a z (by omega) ha]; decide
                        · cases ha
                    clear hfnd hpe HA hel hXL hsz HM eh
                    go_wp2_with fail
                    go_roundw
                    case rel => exact ⟨i + 1, by simp, by omega, HA2, bel6⟩
                    case measure => simp [intOf]; omega
      · have hin : i = n := by omega
        have hlt' : ¬ (i : Int) < (n : Int) := by omega
        have hlt'' : decide ((i : Int) < (n : Int)) = false := by simp; omega
        have e : R = 0 := by
          rw [hpe.out, if_pos]
          exact (ok_all L).2 fun j hj => HA.out j (by omega)
        subst e
        clear HA hpe hel hXL hsz
        go_wp2_with fail
        go_ret
        exact ⟨rfl, bel⟩
theorem any_none (sa : Option Addr) (sc : Nat) (f : Value) (w : World) : Calls Try.prog 37 #[.slice sa 0 sc, f] w fun e w' => e = .returned (.bool false) ∧ Below w.heap.size w w' := by
  go_enter Try.func37, Try.ntmps37
  go_wp2_with fail
  refine (idx_none sa sc f _).mono ?_
  rintro e w' ⟨rfl, hb⟩
  go_wp2_with fail
  go_ret
  exact ⟨rfl, hb⟩
set_option maxRecDepth 20000 in
theorem right_none (sa : Option Addr) (sc : Nat) (w : World) : Calls Try.prog 15 #[.slice sa 0 sc] w fun e w' => e = .returned (.int .i64 0) ∧ Below w.heap.size w w' := by
  go_enter Try.func15, Try.ntmps15
  go_wp2_with fail
  refine (any_none sa sc _ _).mono ?_
  rintro e w1 ⟨rfl, hb⟩
  go_wp2_with fail
  go_loopg [20] 0 (fun g s wr => s = .int .i64 0 ∧ Below w.heap.size w wr)
  case atStart => exact ⟨rfl, hb⟩
  case round =>
    obtain ⟨rfl, bel⟩ := hrel
    go_wp2_with fail
    go_ret
    exact ⟨rfl, bel⟩
/-- the same as Check -/
theorem right_any (v : Value) (L : List Hp) (w : World) (h : PRd w v L) (hsz : ∀ x ∈ L, ∀ q ∈ x.ps, q.d.size ≤ 9223372036854700000) :
    Calls Try.prog 15 #[v] w fun e w' => e = .returned (.int .i64 (perr L)) ∧ Below w.heap.size w w' := by
  obtain ⟨X, hr, hl, hX⟩ := h
  obtain ⟨sa, sc, rfl, hm, hn, hc⟩ := hr
  by_cases h0 : 0 < X.length
  · obtain ⟨b, off, rfl, hb, hx⟩ := hc h0
    exact right_some b off sc X.length L X w rfl hl.symm h0 (by unfold maxLen at hm; omega) hn.le hb hx hX hsz
  · have e : X = [] := List.eq_nil_of_length_eq_zero (by omega)
    subst e
    have e : L = [] := List.eq_nil_of_length_eq_zero (by simpa using hl.symm)
    subst e
    exact right_none sa sc w
end Go.Proofs.Ytlbpapngcgnepaa.frpr
