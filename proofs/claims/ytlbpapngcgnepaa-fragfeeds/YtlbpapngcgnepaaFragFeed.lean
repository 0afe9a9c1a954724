/- What frag.Feed answers. -/
import Derived.Test.YtlbpapngcgnepaaFragTake
import Derived.Test.YtlbpapngcgnepaaFragCheck
import Derived.Test.YtlbpapngcgnepaaFragCopied
namespace Go.Proofs.Ytlbpapngcgnepaa.frfe
open Go.ChangeShapes Go.WideShapes Go.ChangeAt Go.RowKit Go.BigFrame
open Go.Proofs.Ytlbpapngcgnepaa Go.Proofs.Ytlbpapngcgnepaa.ipb Go.Proofs.Ytlbpapngcgnepaa.boxes Go.Proofs.Ytlbpapngcgnepaa.ipr Go.Proofs.Ytlbpapngcgnepaa.frb Go.Proofs.Ytlbpapngcgnepaa.frp Go.Proofs.Ytlbpapngcgnepaa.pl Go.Proofs.Ytlbpapngcgnepaa.frx Go.Proofs.Ytlbpapngcgnepaa.frh Go.Proofs.Ytlbpapngcgnepaa.frf2 Go.Proofs.Ytlbpapngcgnepaa.frt
open Go.Proofs.Ytlbpapngcgnepaa.rws (Own Knd)

/-- what take tells of a pool -/
def takeL (L : List Hp) (p : Pk) : Tk := match (forL L p)[(forAt L p).toNat]? with
  | some hp => takeAt (forL L p) (forAt L p).toNat hp p
  | none => ⟨L, zeroP, false, 0⟩
/-- what Feed tells -/
def feed (L : List Hp) (p : Pk) : Tk :=
  if perr L ≠ 0 then ⟨L, zeroP, false, perr L⟩ else if p.err ≠ 0 then ⟨L, zeroP, false, p.err⟩ else if p.mo = false ∧ p.st = 0 then ⟨L, p, true, 0⟩
  else if 65515 < 8 * p.st + p.d.size then ⟨L, zeroP, false, 2⟩ else if dok p.d (!p.mo) = false then ⟨L, zeroP, false, 4⟩ else takeL L p
theorem own_mono {α : Type} {K : Knd α} {w : World} {B C : Nat} {v : Value} {l : List α} (h : Own K w B v l) (hB : C ≤ B) : Own K w C v l := by
  rcases h with ⟨h1, h2 | ⟨g, cap, cur, e, hg, r⟩⟩
  · exact ⟨h1, Or.inl h2⟩
  · exact ⟨h1, Or.inr ⟨g, cap, cur, e, Nat.le_trans hB hg, r⟩⟩
theorem pool_mono {w : World} {B C : Nat} {v : Value} {Q : List Hq} (h : Pool w B v Q) (hB : C ≤ B) : Pool w C v Q := ⟨own_mono h.row hB, fun q hq => own_mono (h.part q hq) hB, h.apart⟩
/-- parts of heaps that are right are small -/
theorem pt_sm {q : Pt} (h : q.ok = true) : Sm q := by
  simp only [Pt.ok, Bool.and_eq_true, decide_eq_true_eq] at h
  obtain ⟨h1, h2, h3, h4⟩ := h
  unfold Pt.e at h3
  exact ⟨h1, by omega, by omega⟩
theorem folls_ok : ∀ (b : Pt) (l : List Pt), folls b l = true → ∀ q ∈ l, q.ok = true
  | _, [], _, q, hq => by simp at hq
  | b, p :: r, h, q, hq => by
    simp only [folls, Bool.and_eq_true] at h
    rcases List.mem_cons.1 hq with rfl | hq
    · exact h.1.1
    · exact folls_ok p r h.2 q hq
theorem ps_ok {l : List Pt} (h : psok l = true) : ∀ q ∈ l, q.ok = true := by
  cases l with
  | nil => simp [psok] at h
  | cons p r =>
    simp only [psok, Bool.and_eq_true] at h
    intro q hq
    rcases List.mem_cons.1 hq with rfl | hq
    · exact h.1
    · exact folls_ok p r h.2 q hq
theorem from_ok : ∀ (P L : List Hp), okFrom P L = true → ∀ x ∈ L, x.ok = true
  | _, [], _, x, hx => by simp at hx
  | P, y :: r, h, x, hx => by
    simp only [okFrom, Bool.and_eq_true] at h
    rcases List.mem_cons.1 hx with rfl | hx
    · exact h.1.2
    · exact from_ok _ r h.2 x hx
theorem good_of {L : List Hp} (h : perr L = 0) : frt.Good L := by
  unfold perr at h
  split at h
  · omega
  · rename_i hb
    split at h
    · rename_i hk
      simp only [bigP, Bool.or_eq_true, decide_eq_true_eq, not_or, List.any_eq_true, not_exists, not_and] at hb
      refine ⟨by omega, fun x hx => by have := hb.2 x hx; omega, fun x hx q hq => ?_⟩
      have hx' := from_ok [] L hk x hx
      simp only [Hp.ok, Bool.and_eq_true] at hx'
      exact pt_sm (ps_ok hx'.1 q hq)
    · omega
theorem ret_feed {v : Value} {T : Tk} {q : Pk} {ok : Bool} {e : Int} (h1 : T.q = q) (h2 : T.ok = ok) (h3 : T.e = e) : Ending.returned (.tuple #[v, .agg q.cells, .bool ok, .int .i64 e]) = .returned (.tuple #[v, .agg T.q.cells, .bool T.ok, .int .i64 T.e]) := by rw [h1, h2, h3]
set_option maxRecDepth 20000 in
set_option maxHeartbeats 4000000 in
theorem feed_any (v : Value) (L : List Hp) (p : Pk) (w : World) (h : PRd w v L) (hsz : ∀ x ∈ L, ∀ q ∈ x.ps, q.d.size ≤ 9223372036854775807) (hL : L.length * 80 ≤ 140737488355328) (hP : ∀ x ∈ L, x.ps.length * 32 ≤ 140737488355328)
    (hp : 20 + p.o.size + p.d.size ≤ 9223372036854775807) (ha : p.Adr) :
    Calls Try.prog 12 #[v, .agg p.cells] w fun e w' => ∃ v' Q', e = .returned (.tuple #[v', .agg (feed L p).q.cells, .bool (feed L p).ok, .int .i64 (feed L p).e]) ∧ Pool w' w.heap.size v' Q' ∧ Q'.map Hq.p = (feed L p).L ∧ Below w.heap.size w w' := by
  have CC := fun u hu => frc.check_any v L u hu hsz
  have CO := fun u hu => frcp.copied_any v L u hu hL hP
  have CW := fun u => frs.write_any p u hp ha
  have HF : Hid (feed L p = if perr L ≠ 0 then ⟨L, zeroP, false, perr L⟩ else if p.err ≠ 0 then ⟨L, zeroP, false, p.err⟩ else if p.mo = false ∧ p.st = 0 then ⟨L, p, true, 0⟩
    else if 65515 < 8 * p.st + p.d.size then ⟨L, zeroP, false, 2⟩ else if dok p.d (!p.mo) = false then ⟨L, zeroP, false, 4⟩ else takeL L p) := (rfl : _ = _)
  have HG : Hid (perr L = 0 → frt.Good L) := fun he => good_of he
  have HO : Hid (p.err = 0 → p.Ok) := fun he => Pk.ok he
  obtain ⟨T, eT⟩ : ∃ T, T = feed L p := ⟨_, rfl⟩
  rw [← eT] at HF ⊢
  clear eT
  generalize perr L = ce at CC HF HG
  generalize p.err = pe at CW HF HO
  generalize p.out = po at CW
  have F0 : Blk ((w.alloc (.cells p.cells 24)).alloc (.cells zeroP.cells 24)) w.heap.size p.cells 24 := (Blk.new _ _ _).alloc _
  have Z0 : Blk ((w.alloc (.cells p.cells 24)).alloc (.cells zeroP.cells 24)) (w.heap.size + 1) zeroP.cells 24 := Blk.newAt _ _ _ (by simp)
  have b0 := ((Below.refl w.heap.size w).alloc (Nat.le_refl _) (.cells p.cells 24)).alloc (by simp) (.cells zeroP.cells 24)
  have h0 := h.below b0
  go_enter Try.func12, Try.ntmps12
  go_wp2_with fail
  refine (CC _ h0).mono ?_
  rintro e w1 ⟨rfl, hb1⟩
  have F1 := F0.below hb1 F0.lt
  have Z1 := Z0.below hb1 Z0.lt
  have h1 := h0.below hb1
  have b1 := b0.trans (hb1.mono b0.size)
  clear CC F0 Z0 b0 h0 hb1 h
  go_wp2_with fail
  refine (CO _ h1).mono ?_
  rintro e w2 ⟨v2, Q, rfl, P2, hQ, hb2⟩
  have F2 := F1.below hb2 F1.lt
  have Z2 := Z1.below hb2 Z1.lt
  have b2 := b1.trans (hb2.mono b1.size)
  have l1 : w.heap.size + 1 < w1.heap.size := Z1.lt
  have sz2 := hb2.size
  clear CO F1 Z1 h1 hb2
  have HQ : Hid (Q.map Hq.p = L) := hQ
  clear hQ
  have M2 := pool_mono P2 (C := w.heap.size) (by omega)
  by_cases cz : ce = 0
  case neg =>
    have cz1 : (ce == 0) = false := by simpa using cz
    have cz2 : (ce != 0) = true := by simpa using cz
    have E : Hid (T = ⟨L, zeroP, false, ce⟩) := by show _ = _; rw [HF.out, if_pos cz]
    clear HF cz
    go_wp2_with (refine blk_store _ rfl 24 _ _ rfl (w.heap.size + 1) zeroP.cells rfl rfl _ _ Z2 11 pk_info rfl rfl (pk_one zeroP) ?_)
    intro W3 k3 u3
    have M3 := frt.Pool.but M2 Z2 u3
    have b3 := u3.below b2 (by omega)
    clear u3 M2 P2 b2 F2 Z2
    go_wp2_with fail
    exact blk_ret4 rfl rfl _ _ _ rfl k3 _ Try.underlying24 rfl 11 pk_info rfl ⟨_, _, ret_feed (by rw [E.out]) (by rw [E.out]) (by rw [E.out]), M3, by rw [E.out]; exact HQ.out, b3⟩
  subst cz
  have HF1 : Hid (T = if pe ≠ 0 then ⟨L, zeroP, false, pe⟩ else if p.mo = false ∧ p.st = 0 then ⟨L, p, true, 0⟩
    else if 65515 < 8 * p.st + p.d.size then ⟨L, zeroP, false, 2⟩ else if dok p.d (!p.mo) = false then ⟨L, zeroP, false, 4⟩ else takeL L p) := by show _ = _; rw [HF.out, if_neg (by simp)]
  clear HF
  go_wp2_with (refine blk_load _ rfl 24 _ rfl w.heap.size rfl _ _ F2 _ Try.underlying24 rfl 11 pk_info rfl ?_)
  refine (CW _).mono ?_
  rintro e w3 ⟨rfl, hb3⟩
  have F3 := F2.below hb3 F2.lt
  have Z3 := Z2.below hb3 Z2.lt
  have P3 := P2.kept hb3
  have M3 := M2.kept hb3
  have b3 := b2.trans (hb3.mono b2.size)
  have sz3 := hb3.size
  clear CW F2 Z2 P2 M2 b2 hb3
  by_cases pz : pe = 0
  case neg =>
    have cz2 : (pe != 0) = true := by simpa using pz
    have E : Hid (T = ⟨L, zeroP, false, pe⟩) := by show _ = _; rw [HF1.out, if_pos pz]
    clear HF1 pz
    go_wp2_with (refine blk_store _ rfl 24 _ _ rfl (w.heap.size + 1) zeroP.cells rfl rfl _ _ Z3 11 pk_info rfl rfl (pk_one zeroP) ?_)
    intro W4 k4 u4
    have M4 := frt.Pool.but M3 Z3 u4
    have b4 := u4.below b3 (by omega)
    clear u4 M3 P3 b3 F3 Z3
    go_wp2_with fail
    exact blk_ret4 rfl rfl _ _ _ rfl k4 _ Try.underlying24 rfl 11 pk_info rfl ⟨_, _, ret_feed (by rw [E.out]) (by rw [E.out]) (by rw [E.out]), M4, by rw [E.out]; exact HQ.out, b4⟩
  subst pz
  have HF2 : Hid (T = if p.mo = false ∧ p.st = 0 then ⟨L, p, true, 0⟩
    else if 65515 < 8 * p.st + p.d.size then ⟨L, zeroP, false, 2⟩ else if dok p.d (!p.mo) = false then ⟨L, zeroP, false, 4⟩ else takeL L p) := by show _ = _; rw [HF1.out, if_neg (by simp)]
  clear HF1
  have hok := HO.out rfl
  have s0 := hok.st0
  have s1 := hok.st1
  have hall := hok.all
  have cF := F3.cell
  have hsm : Sm (ptOf p) := ⟨by show 0 ≤ 8 * p.st; omega, by show 8 * p.st ≤ 1000000; omega, by show p.d.size ≤ 1000000; omega⟩
  have HS : Hid (Sm (ptOf p)) := hsm
  clear hsm
  by_cases hw : p.mo = false ∧ p.st = 0
  · have E : Hid (T = ⟨L, p, true, 0⟩) := by show _ = _; rw [HF2.out, if_pos hw]
    clear HF2
    obtain ⟨m0, t0⟩ := hw
    have t0' : (p.st == 0) = true := by simpa using t0
    have cZ := Z3.cell
    have fZ := Z3.free
    clear s0 s1
    go_upto_region 8 with fail
    go_region
    have ep : ({ p with mo := false, st := 0 } : Pk) = p := by
      obtain ⟨tos, id, wh, mo, st, li, pr, fr, to', o, d⟩ := p
      simp only at m0 t0
      subst m0 t0
      rfl
    obtain ⟨K1, K2⟩ := putP_blk Z3 { p with mo := false, st := 0 }
    change Exit.then _ _ _ _ (putP w3 (w.heap.size + 1) { p with mo := false, st := 0 }).drew
    have M4 := frt.Pool.but M3 Z3 K2
    have b4 := K2.below b3 (by omega)
    generalize putP w3 (w.heap.size + 1) { p with mo := false, st := 0 } = W4 at K1 M4 b4 ⊢
    rw [ep] at K1
    have k4 := K1.drew
    have M5 : Pool W4.drew w.heap.size v2 Q := ⟨M4.row, M4.part, M4.apart⟩
    have b5 := Below.drew b4
    clear K1 K2 M4 b4 M3 P3 b3 F3 Z3 cF cZ fZ ep m0 t0 t0'
    go_wp2_with fail
    exact blk_ret4 rfl rfl _ _ _ rfl k4 _ Try.underlying24 rfl 11 pk_info rfl ⟨_, _, ret_feed (by rw [E.out]) (by rw [E.out]) (by rw [E.out]), M5, by rw [E.out]; exact HQ.out, b5⟩
  cases hm : p.mo with
  | true =>
    have HF3 : Hid (T = if 65515 < 8 * p.st + p.d.size then ⟨L, zeroP, false, 2⟩ else if dok p.d (!p.mo) = false then ⟨L, zeroP, false, 4⟩ else takeL L p) := by show _ = _; rw [HF2.out, if_neg hw]
    have HD : Hid ((!p.mo) = false) := by show _ = _; rw [hm]; rfl
    clear HF2 hw
    have CF := fun u => frs.far_any (8 * p.st) p.d u (by omega)
    have CD := fun u => frx.data_any p.d false u (by omega)
    have EK := HD.out
    have HK1 : Hid (dok p.d (!p.mo) = dok p.d false) := by show _ = _; rw [EK]
    clear EK
    go_wp2_with fail
    refine (CF _).mono ?_
    rintro e W3 ⟨rfl, hW⟩
    have hW' : w3 = W3 := hW.symm
    subst hW'
    clear hW
    by_cases fr : 65515 < 8 * p.st + (p.d.size : Int)
    · rw [decide_eq_true fr]
      have E : Hid (T = ⟨L, zeroP, false, 2⟩) := by show _ = _; rw [HF3.out, if_pos fr]
      clear HF3 fr
      go_wp2_with (refine blk_store _ rfl 24 _ _ rfl (w.heap.size + 1) zeroP.cells rfl rfl _ _ Z3 11 pk_info rfl rfl (pk_one zeroP) ?_)
      intro W4 k4 u4
      have M4 := frt.Pool.but M3 Z3 u4
      have b4 := u4.below b3 (by omega)
      clear u4 M3 P3 b3 F3 Z3 cF
      go_wp2_with fail
      exact blk_ret4 rfl rfl _ _ _ rfl k4 _ Try.underlying24 rfl 11 pk_info rfl ⟨_, _, ret_feed (by rw [E.out]) (by rw [E.out]) (by rw [E.out]), M4, by rw [E.out]; exact HQ.out, b4⟩
    rw [decide_eq_false fr]
    have HF4 : Hid (T = if dok p.d (!p.mo) = false then ⟨L, zeroP, false, 4⟩ else takeL L p) := by show _ = _; rw [HF3.out, if_neg fr]
    clear HF3 fr
    go_wp2_with fail
    refine (CD _).mono ?_
    rintro e W3 ⟨rfl, hW⟩
    have hW' : w3 = W3 := hW.symm
    subst hW'
    clear hW
    cases dk : dok p.d false with
    | false =>
      have E : Hid (T = ⟨L, zeroP, false, 4⟩) := by show _ = _; rw [HF4.out, HK1.out, if_pos dk]
      clear HF4
      go_wp2_with (refine blk_store _ rfl 24 _ _ rfl (w.heap.size + 1) zeroP.cells rfl rfl _ _ Z3 11 pk_info rfl rfl (pk_one zeroP) ?_)
      intro W4 k4 u4
      have M4 := frt.Pool.but M3 Z3 u4
      have b4 := u4.below b3 (by omega)
      clear u4 M3 P3 b3 F3 Z3 cF
      go_wp2_with fail
      exact blk_ret4 rfl rfl _ _ _ rfl k4 _ Try.underlying24 rfl 11 pk_info rfl ⟨_, _, ret_feed (by rw [E.out]) (by rw [E.out]) (by rw [E.out]), M4, by rw [E.out]; exact HQ.out, b4⟩
    | true =>
      have E : Hid (T = takeL L p) := by show _ = _; rw [HF4.out, HK1.out, if_neg (by rw [dk]; decide)]
      clear HF4 HK1 HD CF CD
      have hqq := HQ.out
      obtain ⟨i, hp1, hi1, hi2, CT⟩ := take_any v2 Q p w1.heap.size w3 P3 (by rw [hqq]; exact HG.out (by simp)) (by omega) HS.out
      rw [hqq] at hi1 hi2 CT
      have ET : Hid (takeAt (forL L p) i hp1 p = takeL L p) := by
        show _ = _
        unfold takeL
        rw [hi1, Int.toNat_natCast, hi2]
      rw [ET.out, ← E.out] at CT
      clear hi1 hi2 ET hqq HS HG HO
      have HE : Hid (T = T) := (rfl : _ = _)
      obtain ⟨T1, eT1⟩ : ∃ T1, T1 = T := ⟨_, rfl⟩
      rw [← eT1] at CT
      have HT1 : Hid (T1 = T) := eT1
      clear eT1 E HE
      go_wp2_with (refine blk_load _ rfl 24 _ rfl w.heap.size rfl _ _ F3 _ Try.underlying24 rfl 11 pk_info rfl ?_)
      refine CT.mono ?_
      rintro e W5 ⟨v5, Q5, rfl, P5, hQ5, hb5⟩
      have Z5 := Z3.below hb5 l1
      have b5 := b3.trans (hb5.mono (by omega))
      have M5 := pool_mono P5 (C := w.heap.size) (by omega)
      have HQ5 : Hid (Q5.map Hq.p = T1.L) := hQ5
      clear CT P3 M3 Z3 F3 b3 cF hb5 P5 hQ5
      go_wp2_with (refine blk_store _ rfl 24 _ _ rfl (w.heap.size + 1) T1.q.cells rfl rfl _ _ Z5 11 pk_info rfl rfl (pk_one T1.q) ?_)
      intro W6 k6 u6
      have M6 := frt.Pool.but M5 Z5 u6
      have b6 := u6.below b5 (by omega)
      clear u6 M5 b5 Z5
      go_wp2_with fail
      exact blk_ret4 rfl rfl _ _ _ rfl k6 _ Try.underlying24 rfl 11 pk_info rfl ⟨_, _, by rw [← HT1.out]; rfl, M6, by rw [← HT1.out]; exact HQ5.out, b6⟩
  | false =>
    have t0 : ¬ p.st = 0 := fun e => hw ⟨hm, e⟩
    have t0' : (p.st == 0) = false := by simpa using t0
    clear t0
    have HF3 : Hid (T = if 65515 < 8 * p.st + p.d.size then ⟨L, zeroP, false, 2⟩ else if dok p.d (!p.mo) = false then ⟨L, zeroP, false, 4⟩ else takeL L p) := by show _ = _; rw [HF2.out, if_neg hw]
    have HD : Hid ((!p.mo) = true) := by show _ = _; rw [hm]; rfl
    clear HF2 hw
    have CF := fun u => frs.far_any (8 * p.st) p.d u (by omega)
    have CD := fun u => frx.data_any p.d true u (by omega)
    have EK := HD.out
    have HK1 : Hid (dok p.d (!p.mo) = dok p.d true) := by show _ = _; rw [EK]
    clear EK
    go_wp2_with fail
    refine (CF _).mono ?_
    rintro e W3 ⟨rfl, hW⟩
    have hW' : w3 = W3 := hW.symm
    subst hW'
    clear hW
    by_cases fr : 65515 < 8 * p.st + (p.d.size : Int)
    · rw [decide_eq_true fr]
      have E : Hid (T = ⟨L, zeroP, false, 2⟩) := by show _ = _; rw [HF3.out, if_pos fr]
      clear HF3 fr
      go_wp2_with (refine blk_store _ rfl 24 _ _ rfl (w.heap.size + 1) zeroP.cells rfl rfl _ _ Z3 11 pk_info rfl rfl (pk_one zeroP) ?_)
      intro W4 k4 u4
      have M4 := frt.Pool.but M3 Z3 u4
      have b4 := u4.below b3 (by omega)
      clear u4 M3 P3 b3 F3 Z3 cF
      go_wp2_with fail
      exact blk_ret4 rfl rfl _ _ _ rfl k4 _ Try.underlying24 rfl 11 pk_info rfl ⟨_, _, ret_feed (by rw [E.out]) (by rw [E.out]) (by rw [E.out]), M4, by rw [E.out]; exact HQ.out, b4⟩
    rw [decide_eq_false fr]
    have HF4 : Hid (T = if dok p.d (!p.mo) = false then ⟨L, zeroP, false, 4⟩ else takeL L p) := by show _ = _; rw [HF3.out, if_neg fr]
    clear HF3 fr
    go_wp2_with fail
    refine (CD _).mono ?_
    rintro e W3 ⟨rfl, hW⟩
    have hW' : w3 = W3 := hW.symm
    subst hW'
    clear hW
    cases dk : dok p.d true with
    | false =>
      have E : Hid (T = ⟨L, zeroP, false, 4⟩) := by show _ = _; rw [HF4.out, HK1.out, if_pos dk]
      clear HF4
      go_wp2_with (refine blk_store _ rfl 24 _ _ rfl (w.heap.size + 1) zeroP.cells rfl rfl _ _ Z3 11 pk_info rfl rfl (pk_one zeroP) ?_)
      intro W4 k4 u4
      have M4 := frt.Pool.but M3 Z3 u4
      have b4 := u4.below b3 (by omega)
      clear u4 M3 P3 b3 F3 Z3 cF
      go_wp2_with fail
      exact blk_ret4 rfl rfl _ _ _ rfl k4 _ Try.underlying24 rfl 11 pk_info rfl ⟨_, _, ret_feed (by rw [E.out]) (by rw [E.out]) (by rw [E.out]), M4, by rw [E.out]; exact HQ.out, b4⟩
    | true =>
      have E : Hid (T = takeL L p) := by show _ = _; rw [HF4.out, HK1.out, if_neg (by rw [dk]; decide)]
      clear HF4 HK1 HD CF CD
      have hqq := HQ.out
      obtain ⟨i, hp1, hi1, hi2, CT⟩ := take_any v2 Q p w1.heap.size w3 P3 (by rw [hqq]; exact HG.out (by simp)) (by omega) HS.out
      rw [hqq] at hi1 hi2 CT
      have ET : Hid (takeAt (forL L p) i hp1 p = takeL L p) := by
        show _ = _
        unfold takeL
        rw [hi1, Int.toNat_natCast, hi2]
      rw [ET.out, ← E.out] at CT
      clear hi1 hi2 ET hqq HS HG HO
      have HE : Hid (T = T) := (rfl : _ = _)
      obtain ⟨T1, eT1⟩ : ∃ T1, T1 = T := ⟨_, rfl⟩
      rw [← eT1] at CT
      have HT1 : Hid (T1 = T) := eT1
      clear eT1 E HE
      go_wp2_with (refine blk_load _ rfl 24 _ rfl w.heap.size rfl _ _ F3 _ Try.underlying24 rfl 11 pk_info rfl ?_)
      refine CT.mono ?_
      rintro e W5 ⟨v5, Q5, rfl, P5, hQ5, hb5⟩
      have Z5 := Z3.below hb5 l1
      have b5 := b3.trans (hb5.mono (by omega))
      have M5 := pool_mono P5 (C := w.heap.size) (by omega)
      have HQ5 : Hid (Q5.map Hq.p = T1.L) := hQ5
      clear CT P3 M3 Z3 F3 b3 cF hb5 P5 hQ5
      go_wp2_with (refine blk_store _ rfl 24 _ _ rfl (w.heap.size + 1) T1.q.cells rfl rfl _ _ Z5 11 pk_info rfl rfl (pk_one T1.q) ?_)
      intro W6 k6 u6
      have M6 := frt.Pool.but M5 Z5 u6
      have b6 := u6.below b5 (by omega)
      clear u6 M5 b5 Z5
      go_wp2_with fail
      exact blk_ret4 rfl rfl _ _ _ rfl k6 _ Try.underlying24 rfl 11 pk_info rfl ⟨_, _, by rw [← HT1.out]; rfl, M6, by rw [← HT1.out]; exact HQ5.out, b6⟩
end Go.Proofs.Ytlbpapngcgnepaa.frfe
