/- custref.Fed, where it answers at once. -/
import Derived.Test.YtlbpapngcgnepaaFragFeed
import Derived.Test.YtlbpapngcgnepaaFragPR
import Derived.Test.YtlbpapngcgnepaaIpText2
import Derived.Test.YtlbpapngcgnepaaLastn
import Derived.Test.YtlbpapngcgnepaaJoinA
namespace Go.Proofs.Ytlbpapngcgnepaa.fda
open Go.ChangeShapes Go.WideShapes Go.ChangeAt Go.RowKit Go.BigFrame
open Go.Proofs.Ytlbpapngcgnepaa Go.Proofs.Ytlbpapngcgnepaa.ipb Go.Proofs.Ytlbpapngcgnepaa.boxes Go.Proofs.Ytlbpapngcgnepaa.ipr Go.Proofs.Ytlbpapngcgnepaa.frb Go.Proofs.Ytlbpapngcgnepaa.frp Go.Proofs.Ytlbpapngcgnepaa.pl Go.Proofs.Ytlbpapngcgnepaa.frx Go.Proofs.Ytlbpapngcgnepaa.frh Go.Proofs.Ytlbpapngcgnepaa.frf2 Go.Proofs.Ytlbpapngcgnepaa.frt Go.Proofs.Ytlbpapngcgnepaa.frfe
open Go.Proofs.Ytlbpapngcgnepaa.rws (Own Knd)

set_option maxRecDepth 20000 in
set_option maxHeartbeats 4000000 in
theorem early (v : Value) (L : List Hp) (p : Pk) (w : World) (h : PRd w v L) (hsz : ∀ x ∈ L, ∀ q ∈ x.ps, q.d.size ≤ 9223372036854700000)
    (hp : 20 + p.o.size + p.d.size ≤ 9223372036854775807) (ha : p.Adr) (hE : perr L = 0 → p.err = 0 → ¬ (p.mo = false ∧ p.st = 0) → ¬ 65515 < 8 * p.st + p.d.size → dok p.d (!p.mo) = false) :
    Calls Try.prog 13 #[v, .agg p.cells] w fun e w' => ∃ v', e = .returned (.tuple #[v', .agg (feed L p).q.cells, .bool (feed L p).ok, .int .i64 (feed L p).e]) ∧ PRd w' v' (feed L p).L ∧ Below w.heap.size w w' := by
  have CC := fun u hu => frpr.right_any v L u hu hsz
  have CW := fun u => ipt.pt_any p u hp ha
  have HF : Hid (feed L p = if perr L ≠ 0 then ⟨L, zeroP, false, perr L⟩ else if p.err ≠ 0 then ⟨L, zeroP, false, p.err⟩ else if p.mo = false ∧ p.st = 0 then ⟨L, p, true, 0⟩
    else if 65515 < 8 * p.st + p.d.size then ⟨L, zeroP, false, 2⟩ else if dok p.d (!p.mo) = false then ⟨L, zeroP, false, 4⟩ else takeL L p) := (rfl : _ = _)
  have HE : Hid (perr L = 0 → p.err = 0 → ¬ (p.mo = false ∧ p.st = 0) → ¬ 65515 < 8 * p.st + p.d.size → dok p.d (!p.mo) = false) := hE
  have HO : Hid (p.err = 0 → p.Ok) := fun he => Pk.ok he
  clear hE hsz hp
  obtain ⟨T, eT⟩ : ∃ T, T = feed L p := ⟨_, rfl⟩
  rw [← eT] at HF ⊢
  clear eT
  generalize perr L = ce at CC HF HE
  generalize p.err = pe at CW HF HE HO
  generalize p.out = po at CW
  obtain ⟨W0, e0⟩ : ∃ W0, W0 = ((w.alloc (.cells p.cells 24)).alloc (.cells zeroP.cells 24)).alloc (.cells zeroP.cells 24) := ⟨_, rfl⟩
  have F0 : Blk W0 w.heap.size p.cells 24 := by rw [e0]; exact ((Blk.new _ _ _).alloc _).alloc _
  have R0 : Blk W0 (w.heap.size + 1) zeroP.cells 24 := by rw [e0]; exact (Blk.newAt _ _ _ (by simp)).alloc _
  have Z0 : Blk W0 (w.heap.size + 1 + 1) zeroP.cells 24 := by rw [e0]; exact Blk.newAt _ _ _ (by simp)
  have b0 : Below w.heap.size w W0 := by rw [e0]; exact (((Below.refl w.heap.size w).alloc (Nat.le_refl _) _).alloc (by simp) _).alloc (by simp; omega) _
  have h0 : PRd (((w.alloc (.cells p.cells 24)).alloc (.cells zeroP.cells 24)).alloc (.cells zeroP.cells 24)) v L := by rw [← e0]; exact h.below b0
  have HW : Hid (W0 = ((w.alloc (.cells p.cells 24)).alloc (.cells zeroP.cells 24)).alloc (.cells zeroP.cells 24)) := e0
  clear e0
  go_enter Try.func13, Try.ntmps13
  go_wp2_with fail
  refine (CC _ h0).mono ?_
  rintro e w1 ⟨rfl, hb1⟩
  have hb1' : Below W0.heap.size W0 w1 := by have := HW.out; rw [this]; exact hb1
  have F1 := F0.below hb1' F0.lt
  have R1 := R0.below hb1' R0.lt
  have Z1 := Z0.below hb1' Z0.lt
  have b1 := b0.trans (hb1'.mono b0.size)
  clear CC F0 R0 Z0 b0 hb1 hb1' HW h0
  by_cases cz : ce = 0
  case neg =>
    have cz1 : (ce == 0) = false := by simpa using cz
    have cz2 : (ce != 0) = true := by simpa using cz
    have E : Hid (T = ⟨L, zeroP, false, ce⟩) := by show _ = _; rw [HF.out, if_pos cz]
    clear HF cz HE CW HO F1
    go_upto_region 6 with fail
    have cZ := Z1.cell
    have cR := R1.cell
    have fR := R1.free
    go_region
    obtain ⟨K1, K2⟩ := putP_blk R1 zeroP
    change Exit.then _ _ _ _ (putP w1 (w.heap.size + 1) zeroP).drew
    have b4 := K2.below b1 (by omega)
    generalize putP w1 (w.heap.size + 1) zeroP = W4 at K1 b4 ⊢
    have k4 := K1.drew
    have b5 := Below.drew b4
    clear K1 K2 b4 cZ cR fR
    go_wp2_with fail
    exact blk_ret4 rfl rfl _ _ _ rfl k4 _ Try.underlying24 rfl 11 pk_info rfl ⟨_, ret_feed (by rw [E.out]) (by rw [E.out]) (by rw [E.out]), by rw [E.out]; exact h.below b5, b5⟩
  subst cz
  have HF1 : Hid (T = if pe ≠ 0 then ⟨L, zeroP, false, pe⟩ else if p.mo = false ∧ p.st = 0 then ⟨L, p, true, 0⟩
    else if 65515 < 8 * p.st + p.d.size then ⟨L, zeroP, false, 2⟩ else if dok p.d (!p.mo) = false then ⟨L, zeroP, false, 4⟩ else takeL L p) := by show _ = _; rw [HF.out, if_neg (by simp)]
  clear HF
  go_wp2_with (refine blk_load _ rfl 24 _ rfl w.heap.size rfl _ _ F1 _ Try.underlying24 rfl 11 pk_info rfl ?_)
  refine (CW _).mono ?_
  rintro e w3 ⟨rfl, hb3⟩
  have F3 := F1.below hb3 F1.lt
  have R3 := R1.below hb3 R1.lt
  have Z3 := Z1.below hb3 Z1.lt
  have b3 := b1.trans (hb3.mono b1.size)
  clear CW F1 R1 Z1 b1 hb3
  by_cases pz : pe = 0
  case neg =>
    have cz2 : (pe != 0) = true := by simpa using pz
    have E : Hid (T = ⟨L, zeroP, false, pe⟩) := by show _ = _; rw [HF1.out, if_pos pz]
    clear HF1 pz HE HO F3
    go_upto_region 6 with fail
    have cZ := Z3.cell
    have cR := R3.cell
    have fR := R3.free
    go_region
    obtain ⟨K1, K2⟩ := putP_blk R3 zeroP
    change Exit.then _ _ _ _ (putP w3 (w.heap.size + 1) zeroP).drew
    have b4 := K2.below b3 (by omega)
    generalize putP w3 (w.heap.size + 1) zeroP = W4 at K1 b4 ⊢
    have k4 := K1.drew
    have b5 := Below.drew b4
    clear K1 K2 b4 cZ cR fR
    go_wp2_with fail
    exact blk_ret4 rfl rfl _ _ _ rfl k4 _ Try.underlying24 rfl 11 pk_info rfl ⟨_, ret_feed (by rw [E.out]) (by rw [E.out]) (by rw [E.out]), by rw [E.out]; exact h.below b5, b5⟩
  subst pz
  have HF2 : Hid (T = if p.mo = false ∧ p.st = 0 then ⟨L, p, true, 0⟩
    else if 65515 < 8 * p.st + p.d.size then ⟨L, zeroP, false, 2⟩ else if dok p.d (!p.mo) = false then ⟨L, zeroP, false, 4⟩ else takeL L p) := by show _ = _; rw [HF1.out, if_neg (by simp)]
  clear HF1
  have hok := HO.out rfl
  have s0 := hok.st0
  have s1 := hok.st1
  have hall := hok.all
  have cF := F3.cell
  by_cases hw : p.mo = false ∧ p.st = 0
  · have E : Hid (T = ⟨L, p, true, 0⟩) := by show _ = _; rw [HF2.out, if_pos hw]
    clear HF2
    obtain ⟨m0, t0⟩ := hw
    have t0' : (p.st == 0) = true := by simpa using t0
    clear HO HE
    go_upto_region 8 with fail
    clear m0 t0 t0'
    have ne := ab.ne w3
    have cc := ab.cells F3
    refine lsn.region 3 _ (ab.Ab w3) (by kernel_rfl) (by simp only [List.take]; exact rfl) (by simp only [List.drop]; exact rfl) (by kernel_rfl) (by kernel_rfl) (ab.Ab.drew _) ?_
    repeat (go_big_quiet_step (fail))
    refine wpQuiet_nil ?_
    intro _ hx
    obtain ⟨x, rfl⟩ := hx
    obtain ⟨Wx, Kx⟩ := x
    have Rx : Blk Wx (w.heap.size + 1) zeroP.cells 24 := R3.below Kx R3.lt
    have bx : Below w.heap.size w Wx := b3.trans (Kx.mono b3.size)
    clear ne cc
    go_wp2_with (refine blk_store _ rfl 24 _ _ rfl (w.heap.size + 1) p.cells rfl rfl _ _ Rx 11 pk_info rfl rfl (pk_one p) ?_)
    intro Wy ky uy
    have by_ := uy.below bx (by omega)
    clear uy Rx bx
    go_wp2_with fail
    exact blk_ret4 rfl rfl _ _ _ rfl ky _ Try.underlying24 rfl 11 pk_info rfl ⟨_, ret_feed (by rw [E.out]) (by rw [E.out]) (by rw [E.out]), by rw [E.out]; exact h.below by_, by_⟩
  have HF3 : Hid (T = if 65515 < 8 * p.st + p.d.size then ⟨L, zeroP, false, 2⟩ else if dok p.d (!p.mo) = false then ⟨L, zeroP, false, 4⟩ else takeL L p) := by show _ = _; rw [HF2.out, if_neg hw]
  clear HF2
  have HD : Hid (65515 < 8 * p.st + (p.d.size : Int) ∨ dok p.d (!p.mo) = false) := by
    show _ ∨ _
    by_cases fr : 65515 < 8 * p.st + (p.d.size : Int)
    · exact Or.inl fr
    · refine Or.inr ?_
      have he := HE.out
      simp only [true_imp_iff] at he
      exact he hw (by omega)
  clear HE
  go_upto_region 7 with fail
  go_cut [42] (fun c wx => c = .bool false ∧ w3 = wx)
  case first =>
    by_cases t0 : p.st = 0
    · have m1 : p.mo = true := by cases hm : p.mo with
        | true => rfl
        | false => exact absurd ⟨hm, t0⟩ hw
      have t0' : (p.st == 0) = true := by simpa using t0
      clear hw
      go_wp2_with fail
      go_meet
      exact ⟨rfl, rfl⟩
    · have t0' : (p.st == 0) = false := by simpa using t0
      clear hw
      go_wp2_with fail
      go_meet
      exact ⟨rfl, rfl⟩
  case rest =>
  obtain ⟨rfl, rfl⟩ := hcut
  by_cases fr : 65515 < 8 * p.st + (p.d.size : Int)
  · have E : Hid (T = ⟨L, zeroP, false, 2⟩) := by show _ = _; rw [HF3.out, if_pos fr]
    clear HF3
    go_upto_region 10 with fail
    have ne := ab.ne w3
    have cc := ab.cells Z3
    refine lsn.region 3 _ (ab.Ab w3) (by kernel_rfl) (by simp only [List.take]; exact rfl) (by simp only [List.drop]; exact rfl) (by kernel_rfl) (by kernel_rfl) (ab.Ab.drew _) ?_
    repeat (go_big_quiet_step (fail))
    refine wpQuiet_nil ?_
    intro _ hx
    obtain ⟨x, rfl⟩ := hx
    obtain ⟨Wx, Kx⟩ := x
    have Rx : Blk Wx (w.heap.size + 1) zeroP.cells 24 := R3.below Kx R3.lt
    have bx : Below w.heap.size w Wx := b3.trans (Kx.mono b3.size)
    clear ne cc
    go_wp2_with (refine blk_store _ rfl 24 _ _ rfl (w.heap.size + 1) zeroP.cells rfl rfl _ _ Rx 11 pk_info rfl rfl (pk_one zeroP) ?_)
    intro Wy ky uy
    have by_ := uy.below bx (by omega)
    clear uy Rx bx
    go_wp2_with fail
    exact blk_ret4 rfl rfl _ _ _ rfl ky _ Try.underlying24 rfl 11 pk_info rfl ⟨_, ret_feed (by rw [E.out]) (by rw [E.out]) (by rw [E.out]), by rw [E.out]; exact h.below by_, by_⟩
  have HF4 : Hid (T = if dok p.d (!p.mo) = false then ⟨L, zeroP, false, 4⟩ else takeL L p) := by show _ = _; rw [HF3.out, if_neg fr]
  clear HF3
  have dk : dok p.d (!p.mo) = false := HD.out.resolve_left fr
  have E : Hid (T = ⟨L, zeroP, false, 4⟩) := by show _ = _; rw [HF4.out, if_pos dk]
  clear HF4 hw
  go_upto_region 11 with fail
  go_cut [68] (fun c wx => c = .bool true ∧ w3 = wx)
  case first =>
    by_cases c1 : p.d.size = 0
    · have d1 : (p.d.toList == ([] : List UInt8)) = true := by rw [frpr.str_none p.d c1]; simp [ByteArray.toList_eq]
      clear dk
      go_wp2_with fail
      go_meet
      exact ⟨rfl, rfl⟩
    · have d1 := frr.str_full p.d c1
      have m1 : p.mo = true := by cases hm : p.mo with
        | true => rfl
        | false => rw [hm] at dk; simp [dok, c1] at dk
      have r8 : (0 : Int) < (p.d.size : Int) % 8 := by
        rw [m1] at dk
        simp [dok, c1] at dk
        omega
      have r8' : decide ((0 : Int) < (p.d.size : Int) % 8) = true := decide_eq_true r8
      clear dk
      go_wp2_with fail
      go_meet
      exact ⟨rfl, rfl⟩
  case rest =>
  obtain ⟨rfl, rfl⟩ := hcut
  go_upto_region 12 with fail
  have ne := ab.ne w3
  have cc := ab.cells Z3
  refine lsn.region 3 _ (ab.Ab w3) (by kernel_rfl) (by simp only [List.take]; exact rfl) (by simp only [List.drop]; exact rfl) (by kernel_rfl) (by kernel_rfl) (ab.Ab.drew _) ?_
  repeat (go_big_quiet_step (fail))
  refine wpQuiet_nil ?_
  intro _ hx
  obtain ⟨x, rfl⟩ := hx
  obtain ⟨Wx, Kx⟩ := x
  have Rx : Blk Wx (w.heap.size + 1) zeroP.cells 24 := R3.below Kx R3.lt
  have bx : Below w.heap.size w Wx := b3.trans (Kx.mono b3.size)
  clear ne cc
  go_wp2_with (refine blk_store _ rfl 24 _ _ rfl (w.heap.size + 1) zeroP.cells rfl rfl _ _ Rx 11 pk_info rfl rfl (pk_one zeroP) ?_)
  intro Wy ky uy
  have by_ := uy.below bx (by omega)
  clear uy Rx bx
  go_wp2_with fail
  exact blk_ret4 rfl rfl _ _ _ rfl ky _ Try.underlying24 rfl 11 pk_info rfl ⟨_, ret_feed (by rw [E.out]) (by rw [E.out]) (by rw [E.out]), by rw [E.out]; exact h.below by_, by_⟩
end Go.Proofs.Ytlbpapngcgnepaa.fda
