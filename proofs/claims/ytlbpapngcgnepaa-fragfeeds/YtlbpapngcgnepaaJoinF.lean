/- FragFedN, FragSame, FragFeedsIn, joined. -/
import Derived.Test.YtlbpapngcgnepaaFragFedA
import Derived.Test.YtlbpapngcgnepaaFragFedP
import Derived.Test.YtlbpapngcgnepaaFragHas
import Derived.Laws.StructEq
import Derived.Test.YtlbpapngcgnepaaFragCheck
import Derived.BigQuiet
/- What custref.Fed answers. -/
namespace Go.Proofs.Ytlbpapngcgnepaa.fdn
open Go.ChangeShapes Go.WideShapes Go.ChangeAt Go.RowKit Go.BigFrame
open Go.Proofs.Ytlbpapngcgnepaa Go.Proofs.Ytlbpapngcgnepaa.ipb Go.Proofs.Ytlbpapngcgnepaa.boxes Go.Proofs.Ytlbpapngcgnepaa.ipr Go.Proofs.Ytlbpapngcgnepaa.frb Go.Proofs.Ytlbpapngcgnepaa.frp Go.Proofs.Ytlbpapngcgnepaa.pl Go.Proofs.Ytlbpapngcgnepaa.frx Go.Proofs.Ytlbpapngcgnepaa.frh Go.Proofs.Ytlbpapngcgnepaa.frf2 Go.Proofs.Ytlbpapngcgnepaa.frt Go.Proofs.Ytlbpapngcgnepaa.frfe
open Go.Proofs.Ytlbpapngcgnepaa.rws (Own Knd)

set_option maxRecDepth 20000 in
set_option maxHeartbeats 4000000 in
theorem late (v : Value) (L : List Hp) (p : Pk) (w : World) (h : PRd w v L) (hsz : ∀ x ∈ L, ∀ q ∈ x.ps, q.d.size ≤ 9223372036854700000)
    (hp : 20 + p.o.size + p.d.size ≤ 9223372036854775807) (ha : p.Adr) (h1 : perr L = 0) (h2 : p.err = 0) (hw : ¬ (p.mo = false ∧ p.st = 0)) (fr : ¬ 65515 < 8 * p.st + p.d.size) (dk : dok p.d (!p.mo) = true) :
    Calls Try.prog 13 #[v, .agg p.cells] w fun e w' => ∃ v', e = .returned (.tuple #[v', .agg (feed L p).q.cells, .bool (feed L p).ok, .int .i64 (feed L p).e]) ∧ PRd w' v' (feed L p).L ∧ Below w.heap.size w w' := by
  have CC := fun u hu => frpr.right_any v L u hu hsz
  have CW := fun u => ipt.pt_any p u hp ha
  have hok := Pk.ok h2
  have HQ : Hid ((ptOf p).ok = true) := fdl.pt_ok hok fr dk
  have HR : Hid (perr L = 0) := h1
  have HF : Hid (feed L p = takeL L p) := by
    show _ = _
    unfold feed
    rw [if_neg (by omega), if_neg (by omega), if_neg hw, if_neg fr, if_neg (by rw [dk]; decide)]
  rw [h1] at CC
  rw [h2] at CW
  obtain ⟨T, eT⟩ : ∃ T, T = feed L p := ⟨_, rfl⟩
  rw [← eT] at HF ⊢
  clear eT h1 h2 hsz hp ha
  generalize p.out = po at CW
  show Calls _ _ _ _ (fdy.Post w T)
  obtain ⟨W0, e0⟩ : ∃ W0, W0 = ((w.alloc (.cells p.cells 24)).alloc (.cells zeroP.cells 24)).alloc (.cells zeroP.cells 24) := ⟨_, rfl⟩
  have F0 : Blk W0 w.heap.size p.cells 24 := by rw [e0]; exact ((Blk.new _ _ _).alloc _).alloc _
  have R0 : Blk W0 (w.heap.size + 1) zeroP.cells 24 := by rw [e0]; exact (Blk.newAt _ _ _ (by simp)).alloc _
  have Z0 : Blk W0 (w.heap.size + 1 + 1) zeroP.cells 24 := by rw [e0]; exact Blk.newAt _ _ _ (by simp)
  have b0 : Below w.heap.size w W0 := by rw [e0]; exact (((Below.refl w.heap.size w).alloc (Nat.le_refl _) _).alloc (by simp) _).alloc (by simp; omega) _
  have h0 : PRd (((w.alloc (.cells p.cells 24)).alloc (.cells zeroP.cells 24)).alloc (.cells zeroP.cells 24)) v L := by rw [← e0]; exact h.below b0
  have HW : Hid (W0 = ((w.alloc (.cells p.cells 24)).alloc (.cells zeroP.cells 24)).alloc (.cells zeroP.cells 24)) := e0
  clear e0
  go_enter Try.func13, Try.ntmps13
  go_wp2_with fail
  refine (CC _ h0).mono ?_
  rintro e w1 ⟨rfl, hb1⟩
  have hb1' : Below W0.heap.size W0 w1 := by have := HW.out; rw [this]; exact hb1
  have F1 := F0.below hb1' F0.lt
  have R1 := R0.below hb1' R0.lt
  have Z1 := Z0.below hb1' Z0.lt
  have b1 := b0.trans (hb1'.mono b0.size)
  clear CC F0 R0 Z0 b0 hb1 hb1' HW h0
  go_wp2_with (refine blk_load _ rfl 24 _ rfl w.heap.size rfl _ _ F1 _ Try.underlying24 rfl 11 pk_info rfl ?_)
  refine (CW _).mono ?_
  rintro e w3 ⟨rfl, hb3⟩
  have F3 := F1.below hb3 F1.lt
  have R3 := R1.below hb3 R1.lt
  have Z3 := Z1.below hb3 Z1.lt
  have b3 := b1.trans (hb3.mono b1.size)
  clear CW F1 R1 Z1 b1 hb3
  have s0 := hok.st0
  have s1 := hok.st1
  have hall := hok.all
  have cF := F3.cell
  go_upto_region 7 with fail
  go_cut [42] (fun c wx => c = .bool false ∧ w3 = wx)
  case first =>
    by_cases t0 : p.st = 0
    · have m1 : p.mo = true := by cases hm : p.mo with
        | true => rfl
        | false => exact absurd ⟨hm, t0⟩ hw
      have t0' : (p.st == 0) = true := by simpa using t0
      clear hw
      go_wp2_with fail
      go_meet
      exact ⟨rfl, rfl⟩
    · have t0' : (p.st == 0) = false := by simpa using t0
      clear hw
      go_wp2_with fail
      go_meet
      exact ⟨rfl, rfl⟩
  case rest =>
  obtain ⟨rfl, rfl⟩ := hcut
  clear hw
  go_upto_region 11 with fail
  go_cut [68] (fun c wx => c = .bool false ∧ w3 = wx)
  case first =>
    by_cases c1 : p.d.size = 0
    · rw [dok, c1] at dk; simp at dk
    · have d1 := frr.str_full p.d c1
      cases hm : p.mo with
      | true =>
        have r8 : ¬ (0 : Int) < (p.d.size : Int) % 8 := by
          rw [hm] at dk
          simp [dok, c1] at dk
          omega
        have r8' : decide ((0 : Int) < (p.d.size : Int) % 8) = false := decide_eq_false r8
        clear dk
        go_wp2_with fail
        go_meet
        exact ⟨rfl, rfl⟩
      | false =>
        clear dk
        go_wp2_with fail
        go_meet
        exact ⟨rfl, rfl⟩
  case rest =>
  obtain ⟨rfl, rfl⟩ := hcut
  go_upto_region 13 with fail
  obtain ⟨X, hX, hXl, hXe⟩ := h.below b3
  exact pts.part (by assumption) (fdp.from13 w w3 T p v X L hX ⟨hXl, hXe⟩ HR.out HQ.out HF.out F3 R3 Z3 b3 _ _ _ _ _ _ _ _ _ _ _ _ _ _ _ _ _ _ _ _ _ _ _ _ _ _ _ _ _ _ _ _ _ _ _ _ _ _ _ _ _ _ _ _ _ _ _ _ _ _ _ _ _ _ _ _ _ _ _ _ _ _ _ _ _ _ _ _ _ _ _ _ _ _ _ _ _ _ _ _ _ _ _ _ _ _ _ _ _ _ _ _ _ _ _ _ _ _ _ _ _ _ _ _ _ _ _ _ _ _ _ _ _ _ _ _ _ _ _ _ _ _ _ _ _ _ _ _ _ _ _ _ _ _ _ _ _ _ _ _ _ _ _ _ _ _ _ _ _ _ _ _ _ _ _ _ _ _ _ _ _ _ _ _ _ _ _ _ _ _ _ _ _ _ _ _ _ _ _ _ _ _ _ _ _ _ _ _ _ _ _ _ _ _ _ _ _ _ _ _ _ _ _ _ _ _ _ _ _ _ _ _ _ _ _ _ _ _ _ _ _ _ _ _ _ _ _ _ _ _ _ _ _ _ _ _ _ _ _ _ _ _ _ _ _ _ _ _ _ _ _ _ _ _ _ _ _ _ _ _ _ _)
theorem fed_any (v : Value) (L : List Hp) (p : Pk) (w : World) (h : PRd w v L) (hsz : ∀ x ∈ L, ∀ q ∈ x.ps, q.d.size ≤ 9223372036854700000)
    (hp : 20 + p.o.size + p.d.size ≤ 9223372036854775807) (ha : p.Adr) :
    Calls Try.prog 13 #[v, .agg p.cells] w fun e w' => ∃ v', e = .returned (.tuple #[v', .agg (feed L p).q.cells, .bool (feed L p).ok, .int .i64 (feed L p).e]) ∧ PRd w' v' (feed L p).L ∧ Below w.heap.size w w' := by
  by_cases h1 : perr L = 0 ∧ p.err = 0 ∧ ¬ (p.mo = false ∧ p.st = 0) ∧ ¬ 65515 < 8 * p.st + (p.d.size : Int) ∧ dok p.d (!p.mo) = true
  · exact late v L p w h hsz hp ha h1.1 h1.2.1 h1.2.2.1 h1.2.2.2.1 h1.2.2.2.2
  · refine fda.early v L p w h hsz hp ha (fun a b c d => ?_)
    cases hd : dok p.d (!p.mo) with
    | false => rfl
    | true => exact absurd ⟨a, b, c, d, hd⟩ h1
end Go.Proofs.Ytlbpapngcgnepaa.fdn
/- custref.SamePool of two pools that hold the same. -/
namespace Go.Proofs.Ytlbpapngcgnepaa.frsa
open Go.ChangeShapes Go.WideShapes Go.ChangeAt Go.RowKit Go.BigFrame
open Go.Proofs.Ytlbpapngcgnepaa Go.Proofs.Ytlbpapngcgnepaa.ipb Go.Proofs.Ytlbpapngcgnepaa.boxes Go.Proofs.Ytlbpapngcgnepaa.ipr Go.Proofs.Ytlbpapngcgnepaa.frb Go.Proofs.Ytlbpapngcgnepaa.frp Go.Proofs.Ytlbpapngcgnepaa.frx Go.Proofs.Ytlbpapngcgnepaa.frha
open Go.Proofs.Ytlbpapngcgnepaa.rws (Own Knd)

set_option maxHeartbeats 2000000 in
set_option maxRecDepth 100000 in
theorem neqPt : NeqAt Try.prog 49 (fun x : Pt => .agg x.cells.toList.toArray) ptb := by
  refine ⟨fun x y w => ?_, GuardAt.agg _ (by kernel_rfl)⟩
  have hS : Try.prog.underlying 49 = some (.struct (Try.prog.fieldsOf 49)) := by kernel_rfl
  have hp : Try.prog.stoodInHeld 49 = false := by kernel_rfl
  have u0 := Try.underlying3
  have u1 := Try.underlying4
  have u3 := Try.underlying9
  have a0 := Try.isAgg3
  have a1 := Try.isAgg4
  have a3 := Try.isAgg9
  have z0 := Try.sizeOf3
  have z1 := Try.sizeOf4
  have z3 := Try.sizeOf9
  obtain ⟨a0, a1, a2⟩ := x
  obtain ⟨b0, b1, b2⟩ := y
  simp only [ptb]
  rw [run_neq_struct, show (10000 : Nat) = 9999 + 1 from rfl, run_equalIn_agg w 9999 49 _ _ hS hp]
  simp only [Program.fieldsOf, Try.underlying49]
  go_simp
  repeat' split
  all_goals simp_all
theorem ptb_self (l : List Pt) : Lib.allEq ptb l l = true := by
  induction l with
  | nil => rfl
  | cons x r ih => simp [Lib.allEq, ih, ptb]
theorem equal_none (a1 a2 : Option Addr) (c1 c2 : Nat) (w : World) : Calls Try.prog 41 #[.slice a1 0 c1, .slice a2 0 c2] w fun e w' => e = .returned (.bool true) ∧ Below w.heap.size w w' := by
  go_enter Try.func41, Try.ntmps41
  go_wp2
  go_loopg [13] 0 (fun g s13 wr => s13 = .int .i64 0 ∧ wr = w)
  case atStart => exact ⟨rfl, rfl⟩
  case round =>
    obtain ⟨rfl, rfl⟩ := hrel
    go_wp2
    go_ret
    exact ⟨rfl, Below.refl _ _⟩
theorem equal_same (w : World) (v1 v2 : Value) (l : List Pt) (h1 : Rd TK w v1 l) (h2 : Rd TK w v2 l) :
    Calls Try.prog 41 #[v1, v2] w fun e w' => e = .returned (.bool true) ∧ Below w.heap.size w w' := by
  obtain ⟨sa1, c1, rfl, m1, f1, k1⟩ := h1
  obtain ⟨sa2, c2, rfl, _, f2, k2⟩ := h2
  by_cases h0 : 0 < l.length
  · obtain ⟨b1, o1, rfl, _, x1⟩ := k1 h0
    obtain ⟨b2, o2, rfl, _, x2⟩ := k2 h0
    have hb : l.length ≤ 9223372036854775807 := by unfold maxLen at m1; omega
    refine (AnyQ.slices_Equal Try.eqPt 3 Try.isAgg49 Try.sizeOf49 (fun p : Pt => p.cells.toList) (fun _ => rfl) ptb neqPt b1 o1 l.length c1 b2 o2 l.length c2 l l w (Nat.le_refl _) (Nat.le_refl _) hb hb (rd_cells (K := TK) x1) (rd_cells (K := TK) x2)).mono ?_
    rintro e w' ⟨rfl, q, rfl⟩
    refine ⟨?_, ?_⟩
    · rw [List.take_length, ptb_self]
    · exact ⟨rfl, rfl, rfl, Nat.le_refl _, fun _ _ => rfl⟩
  · have e : l.length = 0 := by omega
    rw [e]
    exact equal_none _ _ _ _ w
set_option maxRecDepth 20000 in
set_option maxHeartbeats 4000000 in
theorem same_heap (h : Hd) (ps : List Pt) (v1 v2 : Value) (w : World) (h1 : Rd TK w v1 ps) (h2 : Rd TK w v2 ps) :
    Calls Try.prog 40 #[.agg (h.cells v1), .agg (h.cells v2)] w fun e w' => e = .returned (.bool true) ∧ Below w.heap.size w w' := by
  have b0 := ((Below.refl w.heap.size w).alloc (Nat.le_refl _) (.cells (h.cells v1) 46)).alloc (by simp) (.cells (h.cells v2) 46)
  have CE := equal_same ((w.alloc (.cells (h.cells v1) 46)).alloc (.cells (h.cells v2) 46)) v1 v2 ps (h1.below b0) (h2.below b0)
  obtain ⟨fr, tt, pr, id, tos, li, o⟩ := h
  go_enter Try.func40, Try.ntmps40
  go_wp2_with fail
  refine CE.mono ?_
  rintro e w1 ⟨rfl, hb⟩
  have b1 := b0.trans (hb.mono b0.size)
  go_wp2_with fail
  go_ret
  exact ⟨rfl, b1⟩
set_option maxRecDepth 20000 in
set_option maxHeartbeats 4000000 in
theorem equal_heaps (sa1 sa2 : Option Addr) (c1 c2 n : Nat) (L : List Hp) (X Y : List Hv) (w : World) (hn : n = L.length) (hm : n ≤ 9223372036854775807) (hX : X.length = L.length) (hY : Y.length = L.length)
    (k1 : 0 < n → ∃ b off, sa1 = some ⟨b, off, none⟩ ∧ b < w.heap.size ∧ ∀ j x, X[j]? = some x → ∀ i, i < HK.k → w.cell? ⟨b, off + j * HK.k + i, none⟩ = (HK.enc x)[i]?)
    (k2 : 0 < n → ∃ b off, sa2 = some ⟨b, off, none⟩ ∧ b < w.heap.size ∧ ∀ j x, Y[j]? = some x → ∀ i, i < HK.k → w.cell? ⟨b, off + j * HK.k + i, none⟩ = (HK.enc x)[i]?)
    (p1 : ∀ (j : Nat) x (h : Hp), X[j]? = some x → L[j]? = some h → x.h = h.h ∧ Rd TK w x.sl h.ps)
    (p2 : ∀ (j : Nat) x (h : Hp), Y[j]? = some x → L[j]? = some h → x.h = h.h ∧ Rd TK w x.sl h.ps) :
    Calls Try.prog 39 #[.slice sa1 n c1, .slice sa2 n c2, .func (.func 40) #[] #[]] w fun e w' => e = .returned (.bool true) ∧ Below w.heap.size w w' := by
  have HL : Hid (n = L.length ∧ X.length = L.length ∧ Y.length = L.length) := ⟨hn, hX, hY⟩
  clear hn hX hY
  go_enter Try.func39, Try.ntmps39
  go_wp2_with fail
  go_loopw [7, 8, 9, 17] (fun s7 s8 s9 s17 wr => ∃ (i : Nat), s17 = .int .i64 (i : Int) ∧ i ≤ n ∧ Below w.heap.size w wr) (fun _ _ _ i _ => n - (intOf i).toNat)
  case atStart => exact ⟨0, rfl, Nat.zero_le _, Below.refl _ _⟩
  case round =>
    obtain ⟨i, rfl, hi, bel⟩ := hrel
    by_cases hlt : i < n
    · have hlt' : (i : Int) < (n : Int) := by omega
      obtain ⟨b1, o1, rfl, hb1, x1⟩ := k1 (by omega)
      obtain ⟨b2, o2, rfl, hb2, x2⟩ := k2 (by omega)
      obtain ⟨hl1, hl2, hl3⟩ := HL.out
      obtain ⟨h, eh⟩ : ∃ h, L[i]? = some h := ⟨_, List.getElem?_eq_getElem (by omega)⟩
      obtain ⟨x, ex⟩ : ∃ x, X[i]? = some x := ⟨_, List.getElem?_eq_getElem (by omega)⟩
      obtain ⟨y, ey⟩ : ∃ y, Y[i]? = some y := ⟨_, List.getElem?_eq_getElem (by omega)⟩
      obtain ⟨q1, r1⟩ := p1 i x h ex eh
      obtain ⟨q2, r2⟩ := p2 i y h ey eh
      have z1 : ∀ (j : Nat) x, X[j]? = some x → ∀ i, i < HK.k → wr.cell? ⟨b1, o1 + j * HK.k + i, none⟩ = (HK.enc x)[i]? := fun j y hj i hi => (bel.cell (p := ⟨b1, o1 + j * HK.k + i, none⟩) hb1).trans (x1 j y hj i hi)
      have Z0 := Blk.new wr x.cells 46
      have B0 := (Below.refl wr.heap.size wr).alloc (Nat.le_refl _) (.cells x.cells 46)
      have bel1 := bel.trans (B0.mono bel.size)
      have z2 : ∀ (j : Nat) x', Y[j]? = some x' → ∀ i, i < HK.k → (wr.alloc (.cells x.cells 46)).cell? ⟨b2, o2 + j * HK.k + i, none⟩ = (HK.enc x')[i]? := fun j y hj i hi => (bel1.cell (p := ⟨b2, o2 + j * HK.k + i, none⟩) hb2).trans (x2 j y hj i hi)
      have B1 := B0.alloc B0.size (.cells y.cells 46)
      have bel2 := bel.trans (B1.mono bel.size)
      have CS : Calls Try.prog 40 #[.agg x.cells, .agg y.cells] ((wr.alloc (.cells x.cells 46)).alloc (.cells y.cells 46)) fun e w' => e = .returned (.bool true) ∧ Below ((wr.alloc (.cells x.cells 46)).alloc (.cells y.cells 46)).heap.size ((wr.alloc (.cells x.cells 46)).alloc (.cells y.cells 46)) w' := by
        show Calls _ _ #[.agg (x.h.cells x.sl), .agg (y.h.cells y.sl)] _ _
        rw [q1, q2]
        exact same_heap h.h h.ps x.sl y.sl _ (r1.below bel2) (r2.below bel2)
      have hbr1 : b1 < wr.heap.size := Nat.lt_of_lt_of_le hb1 bel.size
      have hbr2 : b2 < wr.heap.size := Nat.lt_of_lt_of_le hb2 bel.size
      clear q1 q2 r1 r2 p1 p2 k1 k2 x1 x2 hl1 hl2 hl3 B0 B1 bel1
      go_wp2_with (first | (refine rd_load HK _ rfl _ rfl b1 o1 X z1 i _ rfl rfl x ex x.cells rfl _ Try.underlying46 rfl ?_) | (refine rd_load HK _ rfl _ rfl b2 o2 Y z2 i _ rfl rfl y ey y.cells rfl _ Try.underlying46 rfl ?_))
      refine CS.mono ?_
      rintro r w3 ⟨rfl, hb3⟩
      have bel3 := bel2.trans (hb3.mono bel2.size)
      clear CS hb3 bel2
      go_wp2_with fail
      go_roundw
      case rel => exact ⟨i + 1, by simp, by omega, bel3⟩
      case measure => simp [intOf]; omega
    · have hlt' : ¬ (i : Int) < (n : Int) := by omega
      go_wp2_with fail
      go_ret
      exact ⟨rfl, bel⟩
/-- pools that hold the same -/
theorem same_any (v1 v2 : Value) (L : List Hp) (w : World) (h1 : PRd w v1 L) (h2 : PRd w v2 L) :
    Calls Try.prog 16 #[v1, v2] w fun e w' => e = .returned (.bool true) ∧ Below w.heap.size w w' := by
  obtain ⟨X, ⟨sa1, c1, rfl, m1, _, k1⟩, hX, p1⟩ := h1
  obtain ⟨Y, ⟨sa2, c2, rfl, _, _, k2⟩, hY, p2⟩ := h2
  have CE := equal_heaps sa1 sa2 c1 c2 L.length L X Y w rfl (by unfold maxLen at m1; omega) hX hY (fun h => k1 (by omega)) (fun h => k2 (by omega)) p1 p2
  rw [hX, hY]
  clear k1 k2 p1 p2 m1
  go_enter Try.func16, Try.ntmps16
  go_wp2_with fail
  refine CE.mono ?_
  rintro r w3 ⟨rfl, hb3⟩
  go_wp2_with fail
  go_ret
  exact ⟨rfl, hb3⟩
end Go.Proofs.Ytlbpapngcgnepaa.frsa
/- The walk through custlaw.FragFeeds. -/
namespace Go.Proofs.Ytlbpapngcgnepaa.frfs
open Go.ChangeShapes Go.WideShapes Go.ChangeAt Go.RowKit Go.BigFrame
open Go.Proofs.Ytlbpapngcgnepaa Go.Proofs.Ytlbpapngcgnepaa.ipb Go.Proofs.Ytlbpapngcgnepaa.boxes Go.Proofs.Ytlbpapngcgnepaa.ipr Go.Proofs.Ytlbpapngcgnepaa.frb Go.Proofs.Ytlbpapngcgnepaa.frp Go.Proofs.Ytlbpapngcgnepaa.pl Go.Proofs.Ytlbpapngcgnepaa.frt Go.Proofs.Ytlbpapngcgnepaa.frfe Go.Proofs.Ytlbpapngcgnepaa.frsa Go.Proofs.Ytlbpapngcgnepaa.frx
open Go.Proofs.Ytlbpapngcgnepaa.rws (Own Knd)

theorem pool_rd {w : World} {B : Nat} {v : Value} {Q : List Hq} (h : Pool w B v Q) : PRd w v (Q.map Hq.p) := by
  refine ⟨Q.map (·.v), frp.Own.rd h.row, by simp, fun j x y hx hy => ?_⟩
  rw [List.getElem?_map, Option.map_eq_some_iff] at hx hy
  obtain ⟨q, hq, rfl⟩ := hx
  obtain ⟨q', hq', rfl⟩ := hy
  rw [hq] at hq'
  obtain rfl := Option.some.inj hq'
  exact ⟨rfl, frp.Own.rd (h.part q (List.mem_of_getElem? hq))⟩
set_option maxRecDepth 20000 in
set_option maxHeartbeats 4000000 in
theorem walk (v : Value) (L : List Hp) (p : Pk) (w : World) (h : PRd w v L) (hsz : ∀ x ∈ L, ∀ q ∈ x.ps, q.d.size ≤ 9223372036854700000) (hL : L.length * 80 ≤ 140737488355328) (hP : ∀ x ∈ L, x.ps.length * 32 ≤ 140737488355328)
    (hp : 20 + p.o.size + p.d.size ≤ 9223372036854775807) (ha : p.Adr) :
    Calls Try.prog 4 #[v, .agg p.cells] w fun e w' => e = .returned (.bool true) ∧ Below w.heap.size w w' := by
  have CF := fun u hu => feed_any v L p u hu (fun x hx q hq => Nat.le_trans (hsz x hx q hq) (by omega)) hL hP hp ha
  have CR := fun u hu => fdn.fed_any v L p u hu hsz hp ha
  have CC := fun u hu => frc.check_any v L u hu (fun x hx q hq => Nat.le_trans (hsz x hx q hq) (by omega))
  have CQ := fun u hu => frpr.right_any v L u hu hsz
  generalize (feed L p).L = M at CF CR
  generalize (feed L p).q = q at CF CR
  generalize (feed L p).ok = ok at CF CR
  generalize (feed L p).e = er at CF CR
  generalize perr L = pe at CC CQ
  clear hsz hL hP hp ha
  have F0 := Blk.new w p.cells 24
  have b0 := (Below.refl w.heap.size w).alloc (Nat.le_refl _) (.cells p.cells 24)
  have h0 := h.below b0
  clear h
  go_enter Try.func4, Try.ntmps4
  go_wp2_with (refine blk_load _ rfl 24 _ rfl w.heap.size rfl _ _ F0 _ Try.underlying24 rfl 11 pk_info rfl ?_)
  refine (CF _ h0).mono ?_
  rintro e w1 ⟨v1, Q, rfl, P1, hQ, hb1⟩
  have A1 := pool_rd P1
  rw [hQ] at A1
  have F1 := F0.below hb1 F0.lt
  have h1 := h0.below hb1
  have b1 := b0.trans (hb1.mono b0.size)
  clear CF F0 h0 b0 hb1 P1 hQ
  have dA := (Below.refl w1.heap.size w1).alloc (Nat.le_refl _) (.cells zeroP.cells 24)
  go_upto_region 2 with (refine blk_store _ rfl 24 _ _ rfl w1.heap.size q.cells rfl rfl _ _ (Blk.new w1 zeroP.cells 24) 11 pk_info rfl rfl (pk_one q) ?_; intro w3 X3 p3)
  have l3 := p3.below dA (Nat.le_refl _)
  have F3 := F1.below l3 F1.lt
  have h3 := h1.below l3
  have A3 := A1.below l3
  have b3 := b1.trans (l3.mono b1.size)
  clear F1 h1 A1 b1 p3 l3 dA
  go_wp2_with (refine blk_load _ rfl 24 _ rfl w.heap.size rfl _ _ F3 _ Try.underlying24 rfl 11 pk_info rfl ?_)
  refine (CR _ h3).mono ?_
  rintro e w4 ⟨v4, rfl, B4, l4⟩
  have h4 := h3.below l4
  have A4 := A3.below l4
  have X4 := X3.below l4 X3.lt
  have b4 := b3.trans (l4.mono b3.size)
  clear CR F3 h3 A3 X3 b3 l4
  have dA := (Below.refl w4.heap.size w4).alloc (Nat.le_refl _) (.cells zeroP.cells 24)
  go_upto_region 3 with (refine blk_store _ rfl 24 _ _ rfl w4.heap.size q.cells rfl rfl _ _ (Blk.new w4 zeroP.cells 24) 11 pk_info rfl rfl (pk_one q) ?_; intro w5 Y5 p5)
  have l5 := p5.below dA (Nat.le_refl _)
  have h5 := h4.below l5
  have A5 := A4.below l5
  have B5 := B4.below l5
  have X5 := X4.below l5 X4.lt
  have b5 := b4.trans (l5.mono b4.size)
  clear h4 A4 B4 X4 b4 p5 l5 dA
  go_wp2_with fail
  refine (CC _ h5).mono ?_
  rintro e w6 ⟨rfl, l6⟩
  have h6 := h5.below l6
  have A6 := A5.below l6
  have B6 := B5.below l6
  have X6 := X5.below l6 X5.lt
  have Y6 := Y5.below l6 Y5.lt
  have b6 := b5.trans (l6.mono b5.size)
  clear CC h5 A5 B5 X5 Y5 b5 l6
  go_wp2_with fail
  refine (CQ _ h6).mono ?_
  rintro e w7 ⟨rfl, l7⟩
  have A7 := A6.below l7
  have B7 := B6.below l7
  have X7 := X6.below l7 X6.lt
  have Y7 := Y6.below l7 Y6.lt
  have b7 := b6.trans (l7.mono b6.size)
  clear CQ h6 A6 B6 X6 Y6 b6 l7
  go_wp2_with fail
  refine (same_any _ _ M _ A7 B7).mono ?_
  rintro e w8 ⟨rfl, l8⟩
  have X8 := X7.below l8 X7.lt
  have Y8 := Y7.below l8 Y7.lt
  have b8 := b7.trans (l8.mono b7.size)
  have cX := X8.cell
  have cY := Y8.cell
  clear A7 B7 X7 Y7 b7 l8
  go_wp2_with fail
  go_ret
  exact ⟨by simp, b8⟩
end Go.Proofs.Ytlbpapngcgnepaa.frfs
