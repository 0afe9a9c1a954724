/- What custref.Fed answers. -/
import Derived.Test.YtlbpapngcgnepaaFragFedA
import Derived.Test.YtlbpapngcgnepaaFragFedP
namespace Go.Proofs.Ytlbpapngcgnepaa.fdn
open Go.ChangeShapes Go.WideShapes Go.ChangeAt Go.RowKit Go.BigFrame
open Go.Proofs.Ytlbpapngcgnepaa Go.Proofs.Ytlbpapngcgnepaa.ipb Go.Proofs.Ytlbpapngcgnepaa.boxes Go.Proofs.Ytlbpapngcgnepaa.ipr Go.Proofs.Ytlbpapngcgnepaa.frb Go.Proofs.Ytlbpapngcgnepaa.frp Go.Proofs.Ytlbpapngcgnepaa.pl Go.Proofs.Ytlbpapngcgnepaa.frx Go.Proofs.Ytlbpapngcgnepaa.frh Go.Proofs.Ytlbpapngcgnepaa.frf2 Go.Proofs.Ytlbpapngcgnepaa.frt Go.Proofs.Ytlbpapngcgnepaa.frfe
open Go.Proofs.Ytlbpapngcgnepaa.rws (Own Knd)

set_option maxRecDepth 20000 in
set_option maxHeartbeats 4000000 in
theorem late (v : Value) (L : List Hp) (p : Pk) (w : World) (h : PRd w v L) (hsz : ∀ x ∈ L, ∀ q ∈ x.ps, q.d.size ≤ 9223372036854700000)
    (hp : 20 + p.o.size + p.d.size ≤ 9223372036854775807) (ha : p.Adr) (h1 : perr L = 0) (h2 : p.err = 0) (hw : ¬ (p.mo = false ∧ p.st = 0)) (fr : ¬ 65515 < 8 * p.st + p.d.size) (dk : dok p.d (!p.mo) = true) :
    Calls Try.prog 13 #[v, .agg p.cells] w fun e w' => ∃ v', e = .returned (.tuple #[v', .agg (feed L p).q.cells, .bool (feed L p).ok, .int .i64 (feed L p).e]) ∧ PRd w' v' (feed L p).L ∧ Below w.heap.size w w' := by
  have CC := fun u hu => frpr.right_any v L u hu hsz
  have CW := fun u => ipt.pt_any p u hp ha
  have hok := Pk.ok h2
  have HQ : Hid ((ptOf p).ok = true) := fdl.pt_ok hok fr dk
  have HR : Hid (perr L = 0) := h1
  have HF : Hid (feed L p = takeL L p) := by
    show _ = _
    unfold feed
    rw [if_neg (by omega), if_neg (by omega), if_neg hw, if_neg fr, if_neg (by rw [dk]; decide)]
  rw [h1] at CC
  rw [h2] at CW
  obtain ⟨T, eT⟩ : ∃ T, T = feed L p := ⟨_, rfl⟩
  rw [← eT] at HF ⊢
  clear eT h1 h2 hsz hp ha
  generalize p.out = po at CW
  show Calls _ _ _ _ (fdy.Post w T)
  obtain ⟨W0, e0⟩ : ∃ W0, W0 = ((w.alloc (.cells p.cells 24)).alloc (.cells zeroP.cells 24)).alloc (.cells zeroP.cells 24) := ⟨_, rfl⟩
  have F0 : Blk W0 w.heap.size p.cells 24 := by rw [e0]; exact ((Blk.new _ _ _).alloc _).alloc _
  have R0 : Blk W0 (w.heap.size + 1) zeroP.cells 24 := by rw [e0]; exact (Blk.newAt _ _ _ (by simp)).alloc _
  have Z0 : Blk W0 (w.heap.size + 1 + 1) zeroP.cells 24 := by rw [e0]; exact Blk.newAt _ _ _ (by simp)
  have b0 : Below w.heap.size w W0 := by rw [e0]; exact (((Below.refl w.heap.size w).alloc (Nat.le_refl _) _).alloc (by simp) _).alloc (by simp; omega) _
  have h0 : PRd (((w.alloc (.cells p.cells 24)).alloc (.cells zeroP.cells 24)).alloc (.cells zeroP.cells 24)) v L := by rw [← e0]; exact h.below b0
  have HW : Hid (W0 = ((w.alloc (.cells p.cells 24)).alloc (.cells zeroP.cells 24)).alloc (.cells zeroP.cells 24)) := e0
  clear e0
  go_enter Try.func13, Try.ntmps13
  go_wp2_with fail
  refine (CC _ h0).mono ?_
  rintro e w1 ⟨rfl, hb1⟩
  have hb1' : Below W0.heap.size W0 w1 := by have := HW.out; rw [this]; exact hb1
  have F1 := F0.below hb1' F0.lt
  have R1 := R0.below hb1' R0.lt
  have Z1 := Z0.below hb1' Z0.lt
  have b1 := b0.trans (hb1'.mono b0.size)
  clear CC F0 R0 Z0 b0 hb1 hb1' HW h0
  go_wp2_with (refine blk_load _ rfl 24 _ rfl w.heap.size rfl _ _ F1 _ Try.underlying24 rfl 11 pk_info rfl ?_)
  refine (CW _).mono ?_
  rintro e w3 ⟨rfl, hb3⟩
  have F3 := F1.below hb3 F1.lt
  have R3 := R1.below hb3 R1.lt
  have Z3 := Z1.below hb3 Z1.lt
  have b3 := b1.trans (hb3.mono b1.size)
  clear CW F1 R1 Z1 b1 hb3
  have s0 := hok.st0
  have s1 := hok.st1
  have hall := hok.all
  have cF := F3.cell
  go_upto_region 7 with fail
  go_cut [42] (fun c wx => c = .bool false ∧ w3 = wx)
  case first =>
    by_cases t0 : p.st = 0
    · have m1 : p.mo = true := by cases hm : p.mo with
        | true => rfl
        | false => exact absurd ⟨hm, t0⟩ hw
      have t0' : (p.st == 0) = true := by simpa using t0
      clear hw
      go_wp2_with fail
      go_meet
      exact ⟨rfl, rfl⟩
    · have t0' : (p.st == 0) = false := by simpa using t0
      clear hw
      go_wp2_with fail
      go_meet
      exact ⟨rfl, rfl⟩
  case rest =>
  obtain ⟨rfl, rfl⟩ := hcut
  clear hw
  go_upto_region 11 with fail
  go_cut [68] (fun c wx => c = .bool false ∧ w3 = wx)
  case first =>
    by_cases c1 : p.d.size = 0
    · rw [dok, c1] at dk; simp at dk
    · have d1 := frr.str_full p.d c1
      cases hm : p.mo with
      | true =>
        have r8 : ¬ (0 : Int) < (p.d.size : Int) % 8 := by
          rw [hm] at dk
          simp [dok, c1] at dk
          omega
        have r8' : decide ((0 : Int) < (p.d.size : Int) % 8) = false := decide_eq_false r8
        clear dk
        go_wp2_with fail
        go_meet
        exact ⟨rfl, rfl⟩
      | false =>
        clear dk
        go_wp2_with fail
        go_meet
        exact ⟨rfl, rfl⟩
  case rest =>
  obtain ⟨rfl, rfl⟩ := hcut
  go_upto_region 13 with fail
  obtain ⟨X, hX, hXl, hXe⟩ := h.below b3
  exact pts.part (by assumption) (fdp.from13 w w3 T p v X L hX ⟨hXl, hXe⟩ HR.out HQ.out HF.out F3 R3 Z3 b3 _ _ _ _ _ _ _ _ _ _ _ _ _ _ _ _ _ _ _ _ _ _ _ _ _ _ _ _ _ _ _ _ _ _ _ _ _ _ _ _ _ _ _ _ _ _ _ _ _ _ _ _ _ _ _ _ _ _ _ _ _ _ _ _ _ _ _ _ _ _ _ _ _ _ _ _ _ _ _ _ _ _ _ _ _ _ _ _ _ _ _ _ _ _ _ _ _ _ _ _ _ _ _ _ _ _ _ _ _ _ _ _ _ _ _ _ _ _ _ _ _ _ _ _ _ _ _ _ _ _ _ _ _ _ _ _ _ _ _ _ _ _ _ _ _ _ _ _ _ _ _ _ _ _ _ _ _ _ _ _ _ _ _ _ _ _ _ _ _ _ _ _ _ _ _ _ _ _ _ _ _ _ _ _ _ _ _ _ _ _ _ _ _ _ _ _ _ _ _ _ _ _ _ _ _ _ _ _ _ _ _ _ _ _ _ _ _ _ _ _ _ _ _ _ _ _ _ _ _ _ _ _ _ _ _ _ _ _ _ _ _ _ _ _ _ _ _ _ _ _ _ _ _ _ _ _ _ _ _ _ _ _)
theorem fed_any (v : Value) (L : List Hp) (p : Pk) (w : World) (h : PRd w v L) (hsz : ∀ x ∈ L, ∀ q ∈ x.ps, q.d.size ≤ 9223372036854700000)
    (hp : 20 + p.o.size + p.d.size ≤ 9223372036854775807) (ha : p.Adr) :
    Calls Try.prog 13 #[v, .agg p.cells] w fun e w' => ∃ v', e = .returned (.tuple #[v', .agg (feed L p).q.cells, .bool (feed L p).ok, .int .i64 (feed L p).e]) ∧ PRd w' v' (feed L p).L ∧ Below w.heap.size w w' := by
  by_cases h1 : perr L = 0 ∧ p.err = 0 ∧ ¬ (p.mo = false ∧ p.st = 0) ∧ ¬ 65515 < 8 * p.st + (p.d.size : Int) ∧ dok p.d (!p.mo) = true
  · exact late v L p w h hsz hp ha h1.1 h1.2.1 h1.2.2.1 h1.2.2.2.1 h1.2.2.2.2
  · refine fda.early v L p w h hsz hp ha (fun a b c d => ?_)
    cases hd : dok p.d (!p.mo) with
    | false => rfl
    | true => exact absurd ⟨a, b, c, d, hd⟩ h1
end Go.Proofs.Ytlbpapngcgnepaa.fdn
