/- What package table's Check answers. -/
import Derived.Test.YtmnmjmbfnecmoaaTabIn3
import Derived.Test.YtmnmjmbfnecmoaaTabShelf
namespace Go.Proofs.Ytmnmjmbfnecmoaa.tc
open Go.ChangeShapes Go.WideShapes Go.ChangeAt Go.RowKit Go.BigFrame
open Go.Proofs.Ytmnmjmbfnecmoaa Go.Proofs.Ytmnmjmbfnecmoaa.tm Go.Proofs.Ytmnmjmbfnecmoaa.tb Go.Proofs.Ytmnmjmbfnecmoaa.ti Go.Proofs.Ytmnmjmbfnecmoaa.tsh Go.Proofs.Ytmnmjmbfnecmoaa.boxes Go.Proofs.Ytmnmjmbfnecmoaa.rwr
open Go.Proofs.Ytmnmjmbfnecmoaa.rws (Knd Own)

theorem neq_zero (u : World) (a : Bool) (k v : Int) (n : Nat) (hk : k = (n : Int)) : (binOp .neq 40 (.agg #[.bool a, .int .u64 k, .int .i64 v]) (.agg #[.bool false, .int .u64 0, .int .i64 0])).run Try.prog u = .ok (.bool (!stb ⟨a, n, v⟩ z0)) u := by
  subst hk
  exact neqSl.1 ⟨a, n, v⟩ z0 u
theorem stb_zero (a : Bool) (n : Nat) (v : Int) : stb ⟨a, n, v⟩ z0 = true ↔ (⟨a, n, v⟩ : St) = z0 := by
  unfold stb z0
  cases a <;> simp [St.mk.injEq] <;> omega
set_option maxHeartbeats 2000000 in
theorem check_any (v : Value) (l : List St) (w : World) (h : Rd SK w v l) : Calls Try.prog 12 #[.agg #[v]] w fun e w' => e = .returned (.int .i64 (terr l)) ∧ Below w.heap.size w w' := by
  have F0 := Blk.new w #[v] 24
  have b0 := (Below.refl w.heap.size w).alloc (Nat.le_refl _) (.cells #[v] 24)
  have r0 := h.below b0
  have c0 := F0.cell 0
  by_cases hb : bn l.length = 0
  · have HE : Hid (terr l = 1) := terr_arg hb
    obtain ⟨sa, sc, rfl⟩ := h.form
    have CB := fun u => bits_any sa l.length sc u
    have CR := fun u => right_any 0 u
    rw [hb] at CB
    clear h r0 F0 hb
    generalize terr l = E at *
    generalize l.length = n at *
    go_enter Try.func12, Try.ntmps12
    go_wp2_with fail
    refine (CB _).mono ?_
    rintro e w1 ⟨rfl, rfl⟩
    go_wp2_with fail
    refine (CR _).mono ?_
    rintro e w1 ⟨rfl, rfl⟩
    go_wp2_with fail
    go_ret
    exact ⟨ret_int (by rw [HE.out]), b0⟩
  · have hbd := bn_bd hb
    have CU := fun u hu => usedOf_any v l u hu (by omega)
    have CI := fun u i hu hf hi => isFound_any v l i u hu hb hf hi
    have CR := fun u => right_any (bn l.length : Int) u
    have hr : rb (bn l.length : Int) = true := by have := bn_le l.length; unfold rb; simp; omega
    rw [hr] at CR
    obtain ⟨b, off, sc, rfl, hlt, hm', hsc, hx⟩ := rd_at h (by omega)
    have CB := fun u => bits_any (some ⟨b, off, none⟩) l.length sc u
    have HX := hx
    obtain ⟨V, HV⟩ : ∃ V, Hid (w.alloc (.cells #[.slice (some ⟨b, off, none⟩) l.length sc] 24) = V) := ⟨_, rfl⟩
    rw [HV.out] at F0 b0 r0 c0
    have nn := ab.ne V
    have ca := ab.cells F0
    have CUx : ∀ x : cls.In (ab.Ab V), _ := fun x => ab.call (x := x) (CU x.W (r0.below x.h))
    by_cases hc : cnt l = l.length
    · have HE : Hid (terr l = 4) := terr_form hb fun hr => by
        have := free_iff.2 hr.free
        omega
      rw [hc] at CUx
      clear CU CI h r0 hx HX hc hr
      generalize terr l = E at *
      generalize bn l.length = B at *
      generalize l.length = n at *
      go_enter Try.func12, Try.ntmps12
      go_wp2_with fail
      rw [HV.out]
      refine (CB _).mono ?_
      rintro e w1 ⟨rfl, rfl⟩
      go_wp2_with fail
      refine (CR _).mono ?_
      rintro e w1 ⟨rfl, rfl⟩
      go_upto_region 3 with fail
      refine ab.region (by kernel_rfl) (by kernel_rfl) ?_
      repeat (go_big_quiet_step ((go_at_call 28; exact CUx _)))
      refine wpQuiet_nil ?_
      intro _ hx
      obtain ⟨x, rfl⟩ := hx
      have b1 := b0.trans (Below.mono x.h b0.size)
      go_wp2_with fail
      go_ret
      exact ⟨ret_int (by rw [HE.out]), b1⟩
    · have hcl : cnt l < l.length := by have := cnt_le l; omega
      have hf := free_iff.1 hcl
      have hne : ((cnt l : Int) == (l.length : Int)) = false := by simp; omega
      have HI : Hid (Rt (hl l) l ↔ ∀ j, j < l.length → ((ax l j).u = false → ax l j = z0) ∧ ((ax l j).u = true → fnd (hl l) l (ax l j).k = j)) := rt_iff (hl_lt hb) hf
      have HE : Hid ((Rt (hl l) l → terr l = 0) ∧ (¬ Rt (hl l) l → terr l = 4)) := ⟨terr_ok hb, terr_form hb⟩
      have CIx : ∀ u, Below V.heap.size V u → ∀ i, i < l.length → _ := fun u hu i hi => CI u i (r0.below hu) hf hi
      have HR : Hid (Rd SK V (.slice (some ⟨b, off, none⟩) l.length sc) l) := r0
      have hG : ∀ i, i < l.length → l[i]? = some (ax l i) := fun i hi => ax_get hi
      have hxV : ∀ j x, l[j]? = some x → ∀ i, i < SK.k → V.cell? ⟨b, off + j * SK.k + i, none⟩ = (SK.enc x)[i]? := fun j y hj i hi => by
        rw [← HV.out]; exact (((Below.refl w.heap.size w).alloc (Nat.le_refl _) (.cells #[.slice (some ⟨b, off, none⟩) l.length sc] 24)).cell (p := ⟨b, off + j * SK.k + i, none⟩) hlt).trans (hx j y hj i hi)
      have hbV : b < V.heap.size := Nat.lt_of_lt_of_le hlt b0.size
      clear CU CI h r0 hx HX hc hr hf hb
      generalize terr l = E at *
      generalize bn l.length = B at *
      generalize cnt l = C at *
      generalize hn : l.length = n at *
      clear hn
      go_enter Try.func12, Try.ntmps12
      go_wp2_with fail
      rw [HV.out]
      refine (CB _).mono ?_
      rintro e w1 ⟨rfl, rfl⟩
      go_wp2_with fail
      refine (CR _).mono ?_
      rintro e w1 ⟨rfl, rfl⟩
      go_upto_region 3 with fail
      refine ab.region (by kernel_rfl) (by kernel_rfl) ?_
      repeat (go_big_quiet_step ((go_at_call 28; exact CUx _)))
      refine wpQuiet_nil ?_
      intro _ hx
      obtain ⟨x, rfl⟩ := hx
      have b1 := b0.trans (Below.mono x.h b0.size)
      have hbx := x.h
      have c1 := ca x 0
      go_wp2_with fail
      go_loopw [22] (fun s22 wr => ∃ i : Nat, s22 = .int .i64 (i : Int) ∧ i ≤ n ∧ Below w1.heap.size w1 wr ∧ Hid (∀ j, j < i → ((ax l j).u = false → ax l j = z0) ∧ ((ax l j).u = true → fnd (hl l) l (ax l j).k = j))) (fun i _ => n - (intOf i).toNat)
      case atStart => exact ⟨0, rfl, Nat.zero_le _, hbx, fun j hj => absurd hj (by omega)⟩
      case round =>
        clear b1 hbx c1 CUx
        obtain ⟨i, rfl, hi, bel, HJ⟩ := hrel
        by_cases hlt : i < n
        · have hlt' : (i : Int) < (n : Int) := by omega
          have gi := hG i hlt
          have z : ∀ (j : Nat) x, l[j]? = some x → ∀ i, i < SK.k → wr.cell? ⟨b, off + j * SK.k + i, none⟩ = (SK.enc x)[i]? := fun j y hj i hi => (bel.cell (p := ⟨b, off + j * SK.k + i, none⟩) hbV).trans (hxV j y hj i hi)
          have HJi : Hid (((ax l i).u = false → ax l i = z0) ∧ ((ax l i).u = true → fnd (hl l) l (ax l i).k = i) → ∀ j, j < i + 1 → ((ax l j).u = false → ax l j = z0) ∧ ((ax l j).u = true → fnd (hl l) l (ax l j).k = j)) := fun hi j hj => by
            by_cases e : j = i
            · rw [e]; exact hi
            · exact HJ.out j (by omega)
          have HN : Hid (¬ (((ax l i).u = false → ax l i = z0) ∧ ((ax l i).u = true → fnd (hl l) l (ax l i).k = i)) → E = 4) := fun hn => HE.out.2 fun hr => hn (HI.out.1 hr i hlt)
          have A0 := Blk.new wr (St.cells (ax l i)) 40
          have B0 := (Below.refl wr.heap.size wr).alloc (Nat.le_refl _) (.cells (St.cells (ax l i)) 40)
          have bel1 := bel.trans (B0.mono bel.size)
          have b1 := b0.trans (bel1.mono b0.size)
          have CI' := CIx _ bel1 i hlt
          have F1 := F0.below bel1 F0.lt
          have cf := F1.cell 0
          clear HJ hG hxV CIx HI
          generalize fnd (hl l) l (ax l i).k = R at *
          obtain ⟨⟨su, sk, sv⟩, hs⟩ : ∃ s, ax l i = s := ⟨_, rfl⟩
          rw [hs] at gi HJi HN B0 bel1 b1 CI' F1 cf
          clear hs B0
          have nz := fun u => neq_zero u su sk sv sk rfl
          cases su
          · by_cases hz : stb ⟨false, sk, sv⟩ z0 = true
            · have HO : Hid (∀ j, j < i + 1 → ((ax l j).u = false → ax l j = z0) ∧ ((ax l j).u = true → fnd (hl l) l (ax l j).k = j)) := HJi.out ⟨fun _ => (stb_zero _ _ _).1 hz, fun h => by cases h⟩
              rw [hz] at nz
              clear hz HJi HN
              have ca0 := A0.cell
              clear A0
              go_upto_region 8 with (refine rd_load SK _ rfl _ rfl b off l z i _ rfl rfl _ gi #[.bool false, .int .u64 (sk : Int), .int .i64 sv] rfl _ Try.underlying40 rfl ?_)
              go_wp2_with fail
              go_roundw
              case rel => exact ⟨i + 1, by go_num, by omega, bel1, HO⟩
              case measure => simp [intOf]; omega
            · have hE : E = 4 := HN.out fun h => hz ((stb_zero _ _ _).2 (h.1 rfl))
              have HE4 : Hid (E = 4) := hE
              have hz' : stb ⟨false, sk, sv⟩ z0 = false := by simpa using hz
              rw [hz'] at nz
              clear hz hz' HJi HN hE HE
              have ca0 := A0.cell
              clear A0
              go_upto_region 8 with (refine rd_load SK _ rfl _ rfl b off l z i _ rfl rfl _ gi #[.bool false, .int .u64 (sk : Int), .int .i64 sv] rfl _ Try.underlying40 rfl ?_)
              go_wp2_with fail
              go_ret
              exact ⟨ret_int (by rw [HE4.out]), b1⟩
          · by_cases hr : R = i
            · have HO : Hid (∀ j, j < i + 1 → ((ax l j).u = false → ax l j = z0) ∧ ((ax l j).u = true → fnd (hl l) l (ax l j).k = j)) := HJi.out ⟨(fun h => by cases h), fun _ => hr⟩
              rw [decide_eq_true hr] at CI'
              clear hr HJi HN nz
              have ca0 := A0.cell
              clear A0
              go_upto_region 8 with (refine rd_load SK _ rfl _ rfl b off l z i _ rfl rfl _ gi #[.bool true, .int .u64 (sk : Int), .int .i64 sv] rfl _ Try.underlying40 rfl ?_)
              go_wp2_with fail
              refine CI'.mono ?_
              rintro e w2 ⟨rfl, rfl⟩
              go_wp2_with fail
              go_roundw
              case rel => exact ⟨i + 1, by go_num, by omega, bel1, HO⟩
              case measure => simp [intOf]; omega
            · have hE : E = 4 := HN.out fun h => hr (h.2 rfl)
              have HE4 : Hid (E = 4) := hE
              rw [decide_eq_false hr] at CI'
              clear hr HJi HN nz hE HE
              have ca0 := A0.cell
              clear A0
              go_upto_region 8 with (refine rd_load SK _ rfl _ rfl b off l z i _ rfl rfl _ gi #[.bool true, .int .u64 (sk : Int), .int .i64 sv] rfl _ Try.underlying40 rfl ?_)
              go_wp2_with fail
              refine CI'.mono ?_
              rintro e w2 ⟨rfl, rfl⟩
              go_wp2_with fail
              go_ret
              exact ⟨ret_int (by rw [HE4.out]), b1⟩
        · have hlt' : ¬ (i : Int) < (n : Int) := by omega
          have hE : E = 0 := HE.out.1 (HI.out.2 fun j hj => HJ.out j (by omega))
          have HE0 : Hid (E = 0) := hE
          have b1 := b0.trans (bel.mono b0.size)
          clear hE HJ HI HE hG hxV CIx
          go_wp2_with fail
          go_ret
          exact ⟨ret_int (by rw [HE0.out]), b1⟩
end Go.Proofs.Ytmnmjmbfnecmoaa.tc
