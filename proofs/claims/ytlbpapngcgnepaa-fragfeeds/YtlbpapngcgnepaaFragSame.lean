/- custref.SamePool of two pools that hold the same. -/
import Derived.Test.YtlbpapngcgnepaaFragHas
import Derived.Laws.StructEq
import Derived.Test.YtlbpapngcgnepaaFragCheck
import Derived.BigQuiet
namespace Go.Proofs.Ytlbpapngcgnepaa.frsa
open Go.ChangeShapes Go.WideShapes Go.ChangeAt Go.RowKit Go.BigFrame
open Go.Proofs.Ytlbpapngcgnepaa Go.Proofs.Ytlbpapngcgnepaa.ipb Go.Proofs.Ytlbpapngcgnepaa.boxes Go.Proofs.Ytlbpapngcgnepaa.ipr Go.Proofs.Ytlbpapngcgnepaa.frb Go.Proofs.Ytlbpapngcgnepaa.frp Go.Proofs.Ytlbpapngcgnepaa.frx Go.Proofs.Ytlbpapngcgnepaa.frha
open Go.Proofs.Ytlbpapngcgnepaa.rws (Own Knd)

set_option maxHeartbeats 2000000 in
set_option maxRecDepth 100000 in
theorem neqPt : NeqAt Try.prog 49 (fun x : Pt => .agg x.cells.toList.toArray) ptb := by
  refine ⟨fun x y w => ?_, GuardAt.agg _ (by kernel_rfl)⟩
  have hS : Try.prog.underlying 49 = some (.struct (Try.prog.fieldsOf 49)) := by kernel_rfl
  have hp : Try.prog.stoodInHeld 49 = false := by kernel_rfl
  have u0 := Try.underlying3
  have u1 := Try.underlying4
  have u3 := Try.underlying9
  have a0 := Try.isAgg3
  have a1 := Try.isAgg4
  have a3 := Try.isAgg9
  have z0 := Try.sizeOf3
  have z1 := Try.sizeOf4
  have z3 := Try.sizeOf9
  obtain ⟨a0, a1, a2⟩ := x
  obtain ⟨b0, b1, b2⟩ := y
  simp only [ptb]
  rw [run_neq_struct, show (10000 : Nat) = 9999 + 1 from rfl, run_equalIn_agg w 9999 49 _ _ hS hp]
  simp only [Program.fieldsOf, Try.underlying49]
  go_simp
  repeat' split
  all_goals simp_all
theorem ptb_self (l : List Pt) : Lib.allEq ptb l l = true := by
  induction l with
  | nil => rfl
  | cons x r ih => simp [Lib.allEq, ih, ptb]
theorem equal_none (a1 a2 : Option Addr) (c1 c2 : Nat) (w : World) : Calls Try.prog 41 #[.slice a1 0 c1, .slice a2 0 c2] w fun e w' => e = .returned (.bool true) ∧ Below w.heap.size w w' := by
  go_enter Try.func41, Try.ntmps41
  go_wp2
  go_loopg [13] 0 (fun g s13 wr => s13 = .int .i64 0 ∧ wr = w)
  case atStart => exact ⟨rfl, rfl⟩
  case round =>
    obtain ⟨rfl, rfl⟩ := hrel
    go_wp2
    go_ret
    exact ⟨rfl, Below.refl _ _⟩
theorem equal_same (w : World) (v1 v2 : Value) (l : List Pt) (h1 : Rd TK w v1 l) (h2 : Rd TK w v2 l) :
    Calls Try.prog 41 #[v1, v2] w fun e w' => e = .returned (.bool true) ∧ Below w.heap.size w w' := by
  obtain ⟨sa1, c1, rfl, m1, f1, k1⟩ := h1
  obtain ⟨sa2, c2, rfl, _, f2, k2⟩ := h2
  by_cases h0 : 0 < l.length
  · obtain ⟨b1, o1, rfl, _, x1⟩ := k1 h0
    obtain ⟨b2, o2, rfl, _, x2⟩ := k2 h0
    have hb : l.length ≤ 9223372036854775807 := by unfold maxLen at m1; omega
    refine (AnyQ.slices_Equal Try.eqPt 3 Try.isAgg49 Try.sizeOf49 (fun p : Pt => p.cells.toList) (fun _ => rfl) ptb neqPt b1 o1 l.length c1 b2 o2 l.length c2 l l w (Nat.le_refl _) (Nat.le_refl _) hb hb (rd_cells (K := TK) x1) (rd_cells (K := TK) x2)).mono ?_
    rintro e w' ⟨rfl, q, rfl⟩
    refine ⟨?_, ?_⟩
    · rw [List.take_length, ptb_self]
    · exact ⟨rfl, rfl, rfl, Nat.le_refl _, fun _ _ => rfl⟩
  · have e : l.length = 0 := by omega
    rw [e]
    exact equal_none _ _ _ _ w
set_option maxRecDepth 20000 in
set_option maxHeartbeats 4000000 in
theorem same_heap (h : Hd) (ps : List Pt) (v1 v2 : Value) (w : World) (h1 : Rd TK w v1 ps) (h2 : Rd TK w v2 ps) :
    Calls Try.prog 40 #[.agg (h.cells v1), .agg (h.cells v2)] w fun e w' => e = .returned (.bool true) ∧ Below w.heap.size w w' := by
  have b0 := ((Below.refl w.heap.size w).alloc (Nat.le_refl _) (.cells (h.cells v1) 46)).alloc (by simp) (.cells (h.cells v2) 46)
  have CE := equal_same ((w.alloc (.cells (h.cells v1) 46)).alloc (.cells (h.cells v2) 46)) v1 v2 ps (h1.below b0) (h2.below b0)
  obtain ⟨fr, tt, pr, id, tos, li, o⟩ := h
  go_enter Try.func40, Try.ntmps40
  go_wp2_with fail
  refine CE.mono ?_
  rintro e w1 ⟨rfl, hb⟩
  have b1 := b0.trans (hb.mono b0.size)
  go_wp2_with fail
  go_ret
  exact ⟨rfl, b1⟩
set_option maxRecDepth 20000 in
set_option maxHeartbeats 4000000 in
theorem equal_heaps (sa1 sa2 : Option Addr) (c1 c2 n : Nat) (L : List Hp) (X Y : List Hv) (w : World) (hn : n = L.length) (hm : n ≤ 9223372036854775807) (hX : X.length = L.length) (hY : Y.length = L.length)
    (k1 : 0 < n → ∃ b off, sa1 = some ⟨b, off, none⟩ ∧ b < w.heap.size ∧ ∀ j x, X[j]? = some x → ∀ i, i < HK.k → w.cell? ⟨b, off + j * HK.k + i, none⟩ = (HK.enc x)[i]?)
    (k2 : 0 < n → ∃ b off, sa2 = some ⟨b, off, none⟩ ∧ b < w.heap.size ∧ ∀ j x, Y[j]? = some x → ∀ i, i < HK.k → w.cell? ⟨b, off + j * HK.k + i, none⟩ = (HK.enc x)[i]?)
    (p1 : ∀ (j : Nat) x (h : Hp), X[j]? = some x → L[j]? = some h → x.h = h.h ∧ Rd TK w x.sl h.ps)
    (p2 : ∀ (j : Nat) x (h : Hp), Y[j]? = some x → L[j]? = some h → x.h = h.h ∧ Rd TK w x.sl h.ps) :
    Calls Try.prog 39 #[.slice sa1 n c1, .slice sa2 n c2, .func (.func 40) #[] #[]] w fun e w' => e = .returned (.bool true) ∧ Below w.heap.size w w' := by
  have HL : Hid (n = L.length ∧ X.length = L.length ∧ Y.length = L.length) := ⟨hn, hX, hY⟩
  clear hn hX hY
  go_enter Try.func39, Try.ntmps39
  go_wp2_with fail
  go_loopw [7, 8, 9, 17] (fun s7 s8 s9 s17 wr => ∃ (i : Nat), s17 = .int .i64 (i : Int) ∧ i ≤ n ∧ Below w.heap.size w wr) (fun _ _ _ i _ => n - (intOf i).toNat)
  case atStart => exact ⟨0, rfl, Nat.zero_le _, Below.refl _ _⟩
  case round =>
    obtain ⟨i, rfl, hi, bel⟩ := hrel
    by_cases hlt : i < n
    · have hlt' : (i : Int) < (n : Int) := by omega
      obtain ⟨b1, o1, rfl, hb1, x1⟩ := k1 (by omega)
      obtain ⟨b2, o2, rfl, hb2, x2⟩ := k2 (by omega)
      obtain ⟨hl1, hl2, hl3⟩ := HL.out
      obtain ⟨h, eh⟩ : ∃ h, L[i]? = some h := ⟨_, List.getElem?_eq_getElem (by omega)⟩
      obtain ⟨x, ex⟩ : ∃ x, X[i]? = some x := ⟨_, List.getElem?_eq_getElem (by omega)⟩
      obtain ⟨y, ey⟩ : ∃ y, Y[i]? = some y := ⟨_, List.getElem?_eq_getElem (by omega)⟩
      obtain ⟨q1, r1⟩ := p1 i x h ex eh
      obtain ⟨q2, r2⟩ := p2 i y h ey eh
      have z1 : ∀ (j : Nat) x, X[j]? = some x → ∀ i, i < HK.k → wr.cell? ⟨b1, o1 + j * HK.k + i, none⟩ = (HK.enc x)[i]? := fun j y hj i hi => (bel.cell (p := ⟨b1, o1 + j * HK.k + i, none⟩) hb1).trans (x1 j y hj i hi)
      have Z0 := Blk.new wr x.cells 46
      have B0 := (Below.refl wr.heap.size wr).alloc (Nat.le_refl _) (.cells x.cells 46)
      have bel1 := bel.trans (B0.mono bel.size)
      have z2 : ∀ (j : Nat) x', Y[j]? = some x' → ∀ i, i < HK.k → (wr.alloc (.cells x.cells 46)).cell? ⟨b2, o2 + j * HK.k + i, none⟩ = (HK.enc x')[i]? := fun j y hj i hi => (bel1.cell (p := ⟨b2, o2 + j * HK.k + i, none⟩) hb2).trans (x2 j y hj i hi)
      have B1 := B0.alloc B0.size (.cells y.cells 46)
      have bel2 := bel.trans (B1.mono bel.size)
      have CS : Calls Try.prog 40 #[.agg x.cells, .agg y.cells] ((wr.alloc (.cells x.cells 46)).alloc (.cells y.cells 46)) fun e w' => e = .returned (.bool true) ∧ Below ((wr.alloc (.cells x.cells 46)).alloc (.cells y.cells 46)).heap.size ((wr.alloc (.cells x.cells 46)).alloc (.cells y.cells 46)) w' := by
        show Calls _ _ #[.agg (x.h.cells x.sl), .agg (y.h.cells y.sl)] _ _
        rw [q1, q2]
        exact same_heap h.h h.ps x.sl y.sl _ (r1.below bel2) (r2.below bel2)
      have hbr1 : b1 < wr.heap.size := Nat.lt_of_lt_of_le hb1 bel.size
      have hbr2 : b2 < wr.heap.size := Nat.lt_of_lt_of_le hb2 bel.size
      clear q1 q2 r1 r2 p1 p2 k1 k2 x1 x2 hl1 hl2 hl3 B0 B1 bel1
      go_wp2_with (first | (refine rd_load HK _ rfl _ rfl b1 o1 X z1 i _ rfl rfl x ex x.cells rfl _ Try.underlying46 rfl ?_) | (refine rd_load HK _ rfl _ rfl b2 o2 Y z2 i _ rfl rfl y ey y.cells rfl _ Try.underlying46 rfl ?_))
      refine CS.mono ?_
      rintro r w3 ⟨rfl, hb3⟩
      have bel3 := bel2.trans (hb3.mono bel2.size)
      clear CS hb3 bel2
      go_wp2_with fail
      go_roundw
      case rel => exact ⟨i + 1, by simp, by omega, bel3⟩
      case measure => simp [intOf]; omega
    · have hlt' : ¬ (i : Int) < (n : Int) := by omega
      go_wp2_with fail
      go_ret
      exact ⟨rfl, bel⟩
/-- pools that hold the same -/
theorem same_any (v1 v2 : Value) (L : List Hp) (w : World) (h1 : PRd w v1 L) (h2 : PRd w v2 L) :
    Calls Try.prog 16 #[v1, v2] w fun e w' => e = .returned (.bool true) ∧ Below w.heap.size w w' := by
  obtain ⟨X, ⟨sa1, c1, rfl, m1, _, k1⟩, hX, p1⟩ := h1
  obtain ⟨Y, ⟨sa2, c2, rfl, _, _, k2⟩, hY, p2⟩ := h2
  have CE := equal_heaps sa1 sa2 c1 c2 L.length L X Y w rfl (by unfold maxLen at m1; omega) hX hY (fun h => k1 (by omega)) (fun h => k2 (by omega)) p1 p2
  rw [hX, hY]
  clear k1 k2 p1 p2 m1
  go_enter Try.func16, Try.ntmps16
  go_wp2_with fail
  refine CE.mono ?_
  rintro r w3 ⟨rfl, hb3⟩
  go_wp2_with fail
  go_ret
  exact ⟨rfl, hb3⟩
end Go.Proofs.Ytlbpapngcgnepaa.frsa
