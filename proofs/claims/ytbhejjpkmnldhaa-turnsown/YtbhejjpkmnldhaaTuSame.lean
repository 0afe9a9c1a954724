/- Two rows that hold the same: slices.Equal of sizes, of what was sent; custref.SameTurns. -/
import Derived.Test.YtbhejjpkmnldhaaTuOut
import Derived.Laws.StructEq
namespace Go.Proofs.Ytbhejjpkmnldhaa.tu
open Go.ChangeShapes Go.WideShapes Go.ChangeAt Go.RowKit Go.BigFrame
open Go.Proofs.Ytbhejjpkmnldhaa Go.Proofs.Ytbhejjpkmnldhaa.boxes Go.Proofs.Ytbhejjpkmnldhaa.rwr Go.Proofs.Ytbhejjpkmnldhaa.rwat
open Go.Proofs.Ytbhejjpkmnldhaa.rws (Knd Own)

theorem neqS_self (a b : Int) (w : World) : (binOp .neq 34 (.agg #[.int .i64 a, .int .i64 b]) (.agg #[.int .i64 a, .int .i64 b])).run Try.prog w = .ok (.bool false) w := by
  have hS : Try.prog.underlying 34 = some (.struct (Try.prog.fieldsOf 34)) := by kernel_rfl
  have hp : Try.prog.stoodInHeld 34 = false := by kernel_rfl
  have u0 := Try.underlying3
  have a0 := Try.isAgg3
  have z0 := Try.sizeOf3
  rw [run_neq_struct, show (10000 : Nat) = 9999 + 1 from rfl, run_equalIn_agg w 9999 34 _ _ hS hp]
  simp only [Program.fieldsOf, Try.underlying34]
  go_simp
set_option maxHeartbeats 2000000 in
set_option maxRecDepth 20000 in
theorem equalN_same (v1 v2 : Value) (l : List Int) (w : World) (h1 : Rd NK w v1 l) (h2 : Rd NK w v2 l) :
    Calls Try.prog 18 #[v1, v2] w fun e w' => e = .returned (.bool true) ∧ Below w.heap.size w w' := by
  have hq := rd_len h1
  obtain ⟨sa1, sc1, rfl⟩ := h1.form
  obtain ⟨sa2, sc2, rfl⟩ := h2.form
  have HX1 : Hid (∀ u, Below w.heap.size w u → 0 < l.length → ∃ b off, sa1 = some ⟨b, off, none⟩ ∧ b < u.heap.size ∧ ∀ j x, l[j]? = some x → ∀ i, i < NK.k → u.cell? ⟨b, off + j * NK.k + i, none⟩ = (NK.enc x)[i]?) := fun u hu hp => rd_spot (h1.below hu) hp
  have HX2 : Hid (∀ u, Below w.heap.size w u → 0 < l.length → ∃ b off, sa2 = some ⟨b, off, none⟩ ∧ b < u.heap.size ∧ ∀ j x, l[j]? = some x → ∀ i, i < NK.k → u.cell? ⟨b, off + j * NK.k + i, none⟩ = (NK.enc x)[i]?) := fun u hu hp => rd_spot (h2.below hu) hp
  have HG : Hid (∀ i, i < l.length → ∃ x, l[i]? = some x) := fun i hi => ⟨l[i], List.getElem?_eq_getElem hi⟩
  clear h1 h2
  generalize l.length = n at *
  go_enter Try.func18, Try.ntmps18
  go_wp2_with fail
  go_loopw [13] (fun s13 wr => ∃ i : Nat, s13 = .int .i64 (i : Int) ∧ i ≤ n ∧ Below w.heap.size w wr) (fun s _ => n - (intOf s).toNat)
  case atStart => exact ⟨0, rfl, Nat.zero_le _, Below.refl _ _⟩
  case round =>
    obtain ⟨i, rfl, hi, bel⟩ := hrel
    by_cases hlt : i < n
    · have hlt' : (i : Int) < (n : Int) := by omega
      obtain ⟨x, hx⟩ := HG.out i hlt
      obtain ⟨b1, o1, rfl, hb1, hx1⟩ := HX1.out wr bel (by omega)
      obtain ⟨b2, o2, rfl, hb2, hx2⟩ := HX2.out wr bel (by omega)
      have c1 : wr.cell? ⟨b1, o1 + i, none⟩ = some (.int .i64 x) := by
        have := hx1 i x hx 0 (by decide)
        simpa [NK] using this
      have c2 : wr.cell? ⟨b2, o2 + i, none⟩ = some (.int .i64 x) := by
        have := hx2 i x hx 0 (by decide)
        simpa [NK] using this
      have a1 := ab.cell c1 hb1
      have a2 := ab.cell c2 hb2
      obtain ⟨W, hW⟩ : ∃ W, W = wr := ⟨_, rfl⟩
      subst hW
      have nn := ab.ne W
      clear HX1 HX2 HG hx1 hx2 hx
      go_upto_region 6 with fail
      refine ab.region (by kernel_rfl) (by kernel_rfl) ?_
      repeat (go_big_quiet_step (fail))
      refine wpQuiet_nil ?_
      intro _ hx
      obtain ⟨u, rfl⟩ := hx
      have bel1 := bel.trans (Below.mono u.h bel.size)
      go_wp2_with fail
      go_roundw
      case rel => exact ⟨i + 1, by go_num, by omega, bel1⟩
      case measure => simp [intOf]; omega
    · have hlt' : ¬ (i : Int) < (n : Int) := by omega
      clear HX1 HX2 HG
      go_wp2_with fail
      go_ret
      exact ⟨rfl, bel⟩
set_option maxHeartbeats 2000000 in
set_option maxRecDepth 20000 in
theorem equalS_same (v1 v2 : Value) (l : List Sn) (w : World) (h1 : Rd ZK w v1 l) (h2 : Rd ZK w v2 l) :
    Calls Try.prog 14 #[v1, v2] w fun e w' => e = .returned (.bool true) ∧ Below w.heap.size w w' := by
  have hq := rd_len h1
  obtain ⟨sa1, sc1, rfl⟩ := h1.form
  obtain ⟨sa2, sc2, rfl⟩ := h2.form
  have HX1 : Hid (∀ u, Below w.heap.size w u → 0 < l.length → ∃ b off, sa1 = some ⟨b, off, none⟩ ∧ b < u.heap.size ∧ ∀ j x, l[j]? = some x → ∀ i, i < ZK.k → u.cell? ⟨b, off + j * ZK.k + i, none⟩ = (ZK.enc x)[i]?) := fun u hu hp => rd_spot (h1.below hu) hp
  have HX2 : Hid (∀ u, Below w.heap.size w u → 0 < l.length → ∃ b off, sa2 = some ⟨b, off, none⟩ ∧ b < u.heap.size ∧ ∀ j x, l[j]? = some x → ∀ i, i < ZK.k → u.cell? ⟨b, off + j * ZK.k + i, none⟩ = (ZK.enc x)[i]?) := fun u hu hp => rd_spot (h2.below hu) hp
  have HG : Hid (∀ i, i < l.length → ∃ x, l[i]? = some x) := fun i hi => ⟨l[i], List.getElem?_eq_getElem hi⟩
  clear h1 h2
  generalize l.length = n at *
  go_enter Try.func14, Try.ntmps14
  go_wp2_with fail
  go_loopw [13] (fun s13 wr => ∃ i : Nat, s13 = .int .i64 (i : Int) ∧ i ≤ n ∧ Below w.heap.size w wr) (fun s _ => n - (intOf s).toNat)
  case atStart => exact ⟨0, rfl, Nat.zero_le _, Below.refl _ _⟩
  case round =>
    obtain ⟨i, rfl, hi, bel⟩ := hrel
    by_cases hlt : i < n
    · have hlt' : (i : Int) < (n : Int) := by omega
      obtain ⟨x, hx⟩ := HG.out i hlt
      obtain ⟨b1, o1, rfl, hb1, hx1⟩ := HX1.out wr bel (by omega)
      obtain ⟨b2, o2, rfl, hb2, hx2⟩ := HX2.out wr bel (by omega)
      have c1 : wr.cell? ⟨b1, o1 + i * 2, none⟩ = some (.int .i64 (x.i : Int)) := by
        have := hx1 i x hx 0 (by decide)
        simpa [ZK] using this
      have c2 : wr.cell? ⟨b2, o2 + i * 2, none⟩ = some (.int .i64 (x.i : Int)) := by
        have := hx2 i x hx 0 (by decide)
        simpa [ZK] using this
      have d1 : wr.cell? ⟨b1, o1 + i * 2 + 1, none⟩ = some (.int .i64 x.n) := by
        have := hx1 i x hx 1 (by decide)
        simpa [ZK] using this
      have d2 : wr.cell? ⟨b2, o2 + i * 2 + 1, none⟩ = some (.int .i64 x.n) := by
        have := hx2 i x hx 1 (by decide)
        simpa [ZK] using this
      have a1 := ab.cell c1 hb1
      have a2 := ab.cell c2 hb2
      have a3 := ab.cell d1 hb1
      have a4 := ab.cell d2 hb2
      have ns := fun u => neqS_self (x.i : Int) x.n u
      obtain ⟨W, hW⟩ : ∃ W, W = wr := ⟨_, rfl⟩
      subst hW
      have nn := ab.ne W
      clear HX1 HX2 HG hx1 hx2 hx
      go_upto_region 6 with fail
      refine ab.region (by kernel_rfl) (by kernel_rfl) ?_
      repeat (go_big_quiet_step (fail))
      refine wpQuiet_nil ?_
      intro _ hx
      obtain ⟨u, rfl⟩ := hx
      have bel1 := bel.trans (Below.mono u.h bel.size)
      go_wp2_with fail
      go_roundw
      case rel => exact ⟨i + 1, by go_num, by omega, bel1⟩
      case measure => simp [intOf]; omega
    · have hlt' : ¬ (i : Int) < (n : Int) := by omega
      clear HX1 HX2 HG
      go_wp2_with fail
      go_ret
      exact ⟨rfl, bel⟩
set_option maxRecDepth 20000 in
theorem same_one (sh sv : Int) (l : List Int) (v1 v2 : Value) (w : World) (h1 : Rd NK w v1 l) (h2 : Rd NK w v2 l) :
    Calls Try.prog 28 #[.agg (QC sh sv v1), .agg (QC sh sv v2)] w fun e w' => e = .returned (.bool true) ∧ Below w.heap.size w w' := by
  have b0 := ((Below.refl w.heap.size w).alloc (Nat.le_refl _) (.cells (QC sh sv v1) 41)).alloc (by simp) (.cells (QC sh sv v2) 41)
  have CE := equalN_same v1 v2 l ((w.alloc (.cells (QC sh sv v1) 41)).alloc (.cells (QC sh sv v2) 41)) (h1.below b0) (h2.below b0)
  go_enter Try.func28, Try.ntmps28
  go_wp2_with fail
  refine CE.mono ?_
  rintro e w1 ⟨rfl, hb⟩
  have b1 := b0.trans (hb.mono b0.size)
  go_wp2_with fail
  go_ret
  exact ⟨rfl, b1⟩
set_option maxRecDepth 20000 in
set_option maxHeartbeats 4000000 in
theorem equalF_same (v1 v2 : Value) (L : List Qu) (w : World) (h1 : TRd w v1 L) (h2 : TRd w v2 L) :
    Calls Try.prog 27 #[v1, v2, .func (.func 28) #[] #[]] w fun e w' => e = .returned (.bool true) ∧ Below w.heap.size w w' := by
  have hq := h1.len
  have CS := fun sh sv l v1 v2 u h1 h2 => same_one sh sv l v1 v2 u h1 h2
  obtain ⟨X, hr1, hX, p1⟩ := h1
  obtain ⟨Y, hr2, hY, p2⟩ := h2
  obtain ⟨sa1, sc1, rfl⟩ := hr1.form
  obtain ⟨sa2, sc2, rfl⟩ := hr2.form
  have HX1 : Hid (∀ u, Below w.heap.size w u → 0 < L.length → ∃ b off, sa1 = some ⟨b, off, none⟩ ∧ b < u.heap.size ∧ ∀ j x, X[j]? = some x → ∀ i, i < QK.k → u.cell? ⟨b, off + j * QK.k + i, none⟩ = (QK.enc x)[i]?) := fun u hu hp => rd_spot (hr1.below hu) (by omega)
  have HX2 : Hid (∀ u, Below w.heap.size w u → 0 < L.length → ∃ b off, sa2 = some ⟨b, off, none⟩ ∧ b < u.heap.size ∧ ∀ j x, Y[j]? = some x → ∀ i, i < QK.k → u.cell? ⟨b, off + j * QK.k + i, none⟩ = (QK.enc x)[i]?) := fun u hu hp => rd_spot (hr2.below hu) (by omega)
  have HG : Hid (∀ i, i < L.length → ∃ (x y : Qv) (q : Qu), X[i]? = some x ∧ Y[i]? = some y ∧ (x.sh = q.sh ∧ x.sv = q.sv ∧ Rd NK w x.sl q.l) ∧ y.sh = q.sh ∧ y.sv = q.sv ∧ Rd NK w y.sl q.l) := fun i hi =>
    ⟨X[i]'(by omega), Y[i]'(by omega), L[i], List.getElem?_eq_getElem _, List.getElem?_eq_getElem _, p1 i _ _ (List.getElem?_eq_getElem _) (List.getElem?_eq_getElem hi), p2 i _ _ (List.getElem?_eq_getElem _) (List.getElem?_eq_getElem hi)⟩
  rw [hX, hY]
  clear hr1 hr2 p1 p2 hX hY
  generalize L.length = n at *
  go_enter Try.func27, Try.ntmps27
  go_wp2_with fail
  go_loopw [7, 8, 9, 17] (fun s7 s8 s9 s17 wr => ∃ (i : Nat), s17 = .int .i64 (i : Int) ∧ i ≤ n ∧ Below w.heap.size w wr) (fun _ _ _ i _ => n - (intOf i).toNat)
  case atStart => exact ⟨0, rfl, Nat.zero_le _, Below.refl _ _⟩
  case round =>
    obtain ⟨i, rfl, hi, bel⟩ := hrel
    by_cases hlt : i < n
    · have hlt' : (i : Int) < (n : Int) := by omega
      obtain ⟨x, y, q, ex, ey, ⟨q1, q2, r1⟩, q3, q4, r2⟩ := HG.out i hlt
      obtain ⟨b1, o1, rfl, hb1, z1⟩ := HX1.out wr bel (by omega)
      have B0 := (Below.refl wr.heap.size wr).alloc (Nat.le_refl _) (.cells x.cells 41)
      have bel1 := bel.trans (B0.mono bel.size)
      have Z0 := Blk.new wr x.cells 41
      obtain ⟨b2, o2, rfl, hb2, z2⟩ := HX2.out (wr.alloc (.cells x.cells 41)) bel1 (by omega)
      have B1 := B0.alloc B0.size (.cells y.cells 41)
      have bel2 := bel.trans (B1.mono bel.size)
      have CSx : Calls Try.prog 28 #[.agg x.cells, .agg y.cells] ((wr.alloc (.cells x.cells 41)).alloc (.cells y.cells 41)) fun e w' => e = .returned (.bool true) ∧ Below ((wr.alloc (.cells x.cells 41)).alloc (.cells y.cells 41)).heap.size ((wr.alloc (.cells x.cells 41)).alloc (.cells y.cells 41)) w' := by
        show Calls _ _ #[.agg (QC x.sh x.sv x.sl), .agg (QC y.sh y.sv y.sl)] _ _
        rw [q1, q2, q3, q4]
        exact CS q.sh q.sv q.l x.sl y.sl _ (r1.below bel2) (r2.below bel2)
      clear q1 q2 q3 q4 r1 r2 HX1 HX2 HG B0 B1 bel1 CS
      obtain ⟨xh, xv, xa, xn, xc⟩ := x
      obtain ⟨yh, yv, ya, yn, yc⟩ := y
      dsimp only [Qv.cells, Qv.sl] at *
      go_wp2_with (first | (refine rd_load QK _ rfl _ rfl b1 o1 X z1 i _ rfl rfl _ ex (QC xh xv (.slice xa xn xc)) rfl _ Try.underlying41 rfl ?_) | (refine rd_load QK _ rfl _ rfl b2 o2 Y z2 i _ rfl rfl _ ey (QC yh yv (.slice ya yn yc)) rfl _ Try.underlying41 rfl ?_))
      refine CSx.mono ?_
      rintro r w3 ⟨rfl, hb3⟩
      have bel3 := bel2.trans (hb3.mono bel2.size)
      clear CSx hb3 bel2
      go_wp2_with fail
      go_roundw
      case rel => exact ⟨i + 1, by simp, by omega, bel3⟩
      case measure => simp [intOf]; omega
    · have hlt' : ¬ (i : Int) < (n : Int) := by omega
      clear HX1 HX2 HG CS
      go_wp2_with fail
      go_ret
      exact ⟨rfl, bel⟩
theorem same_any (v1 v2 : Value) (L : List Qu) (w : World) (h1 : TRd w v1 L) (h2 : TRd w v2 L) :
    Calls Try.prog 13 #[v1, v2] w fun e w' => e = .returned (.bool true) ∧ Below w.heap.size w w' := by
  have CE := equalF_same v1 v2 L w h1 h2
  obtain ⟨sa1, sc1, rfl⟩ := h1.form
  obtain ⟨sa2, sc2, rfl⟩ := h2.form
  clear h1 h2
  generalize L.length = n at *
  go_enter Try.func13, Try.ntmps13
  go_wp2_with fail
  refine CE.mono ?_
  rintro r w3 ⟨rfl, hb3⟩
  go_wp2_with fail
  go_ret
  exact ⟨rfl, hb3⟩
end Go.Proofs.Ytbhejjpkmnldhaa.tu
