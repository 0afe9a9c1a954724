/- What tcp.Mss and tcp.Move answer, and that they change nothing that was there. -/
import Derived.Test.YtpcknkpddinccaaDoorTcpMvIn
import Derived.Test.YtpcknkpddinccaaDoorLast
import Derived.Deep.RegionWith
import Derived.Deep.DeepCutAuto
namespace Go.Proofs.YtpcknkpddinccaaDoor.tcm
open Go.ChangeShapes Go.WideShapes Go.ChangeAt Go.RowKit Go.BigFrame
open Go.Proofs.YtpcknkpddinccaaDoor Go.Proofs.YtpcknkpddinccaaDoor.EM Go.Proofs.YtpcknkpddinccaaDoor.ethb Go.Proofs.YtpcknkpddinccaaDoor.SM Go.Proofs.YtpcknkpddinccaaDoor.ipb Go.Proofs.YtpcknkpddinccaaDoor.boxes Go.Proofs.YtpcknkpddinccaaDoor.wds Go.Proofs.YtpcknkpddinccaaDoor.tcb Go.Proofs.YtpcknkpddinccaaDoor.tci Go.Proofs.YtpcknkpddinccaaDoor.tcv Go.Proofs.YtpcknkpddinccaaDoor.rwr
open Go.Proofs.YtpcknkpddinccaaDoor.sumw (Qd Qd.refl Qd.drewN Qd.trans)
open Go.Proofs.YtpcknkpddinccaaDoor.rws (Knd Own)

/-- results: a block -/
theorem blk_ret1 {fn : Func} {p : Tmp} {ty : TypeId} {R : Ending → World → Prop} {a : Act} {W : World} (h : fn.results = #[.cell p ty]) (hd : a.defers = []) (b : Nat) (F : Array Value) (t : TypeId) (hp : a.tmps.getD p undef = .pointer (some ⟨b, 0, none⟩)) (k : Blk W b F t)
    (d : TypeDesc) (hu : Tryd.prog.underlying ty = some d) (hdd : wideD d = true) (n : Nat) (hi : (Tryd.prog.info? ty).map (·.size) = some n) (hn : F.size = n)
    (hR : R (.returned (.agg F)) W) : bodyPost Tryd.prog fn R .ret a W := by
  refine bodyPost_ret (v := .agg F) ?_ hd hR
  simp only [results, h]
  simp [Sem.run_bind, Result.andThen]
  rw [show a.tmps[p]?.getD undef = .pointer (some ⟨b, 0, none⟩) from (by simpa using hp)]
  simp [asAddr, run_loadVar_row W b t ty F (0, 0) d k hu (by cases d <;> first | rfl | cases hdd) (by rw [hn]; exact hi)]
/-- a row's cells, at a place of their own -/
theorem rd_at {α : Type} {K : Knd α} {w : World} {v : Value} {l : List α} (h : Rd K w v l) (hl : 0 < l.length) : ∃ b off sc, v = .slice (some ⟨b, off, none⟩) l.length sc ∧ b < w.heap.size ∧ l.length ≤ sc ∧ ∀ j x, l[j]? = some x → ∀ i, i < K.k → w.cell? ⟨b, off + j * K.k + i, none⟩ = (K.enc x)[i]? := by
  obtain ⟨sa, sc, rfl, _, hf, hc⟩ := h
  obtain ⟨b, off, rfl, hb, hx⟩ := hc hl
  exact ⟨b, off, sc, rfl, hb, hf.le, hx⟩
theorem mss_go (os : List Opt) (i : Nat) (h : ∀ (j : Nat) o, j < i → os[j]? = some o → isM o = false) : mss os = mss (os.drop i) := by
  unfold mss
  have e : os.find? isM = (os.drop i).find? isM := by
    conv => lhs; rw [← List.take_append_drop i os]
    rw [List.find?_append]
    have : (os.take i).find? isM = none := by
      rw [List.find?_eq_none]
      intro o ho
      obtain ⟨j, hj⟩ := List.mem_iff_getElem?.1 ho
      rw [List.getElem?_take] at hj
      split at hj
      · rw [h j o (by assumption) hj]; simp
      · simp at hj
    rw [this]; rfl
  rw [e]
set_option maxRecDepth 20000 in
set_option maxHeartbeats 1000000 in
theorem mss_any (h : Sh) (v : Value) (os : List Opt) (w : World) (hr : Rd OK w v os) (hz : ∀ o ∈ os, o.d.size ≤ 281474976710656) :
    Calls Tryd.prog 42 #[.agg (h.cells v)] w fun e w' => e = .returned (.tuple #[.int .i64 (mss os).1, .bool (mss os).2]) ∧ Below w.heap.size w w' := by
  have b0 := (Below.refl w.heap.size w).alloc (Nat.le_refl _) (.cells (h.cells v) 25)
  obtain ⟨M, HM⟩ : ∃ M, Hid (mss os = M) := ⟨_, (rfl : _ = _)⟩
  rw [HM.out]
  by_cases h0 : 0 < os.length
  case neg =>
    have el : os = [] := List.eq_nil_of_length_eq_zero (by omega)
    subst el
    obtain ⟨sa, sc, rfl, _⟩ := hr
    have E : Hid (M = (0, false)) := by show _ = _; rw [← HM.out]; rfl
    clear HM hz
    simp only [List.length_nil]
    go_enter Tryd.func42, Tryd.ntmps42
    go_wp2_with fail
    go_loopg [9] 0 (fun g i wr => i = .int .i64 0 ∧ Below w.heap.size w wr)
    case atStart => exact ⟨rfl, b0⟩
    case round =>
      obtain ⟨rfl, bel⟩ := hrel
      go_wp2
      go_ret2
      exact ⟨by rw [E.out]; rfl, bel⟩
  obtain ⟨b, off, sc, rfl, hb, _, hc⟩ := rd_at hr h0
  obtain ⟨n, N⟩ : ∃ n, n = os.length := ⟨_, rfl⟩
  have nb : n ≤ 9223372036854775807 := by
    obtain ⟨_, _, _, hm, _⟩ := hr
    unfold maxLen at hm; omega
  rw [← N] at b0 ⊢
  have HN : Hid (n = os.length) := N
  clear N hr h0
  go_enter Tryd.func42, Tryd.ntmps42
  go_wp2_with fail
  go_loopw [9] (fun i wr => ∃ k : Nat, i = .int .i64 (k : Int) ∧ k ≤ n ∧ Hid (∀ (j : Nat) o, j < k → os[j]? = some o → isM o = false) ∧ Below w.heap.size w wr) (fun i _ => n - (intOf i).toNat)
  case atStart => exact ⟨0, rfl, Nat.zero_le _, (fun j o hj => by omega : ∀ (j : Nat) o, j < 0 → os[j]? = some o → isM o = false), b0⟩
  case round =>
    obtain ⟨k, rfl, hk, hno, bel⟩ := hrel
    clear b0
    by_cases hlt : k < n
    · have hN := HN.out
      obtain ⟨o, ho⟩ : ∃ o, os[k]? = some o := ⟨os[k]'(by omega), List.getElem?_eq_getElem _⟩
      have oz := hz o (List.mem_of_getElem? ho)
      have hc' : ∀ (j : Nat) x, os[j]? = some x → ∀ i, i < OK.k → wr.cell? ⟨b, off + j * OK.k + i, none⟩ = (OK.enc x)[i]? := fun j x hx i hi => (bel.cell (p := ⟨b, off + j * OK.k + i, none⟩) hb).trans (hc j x hx i hi)
      have M1 : Hid (isM o = true → M = (wd o.d 0, true)) := by
        intro hi
        rw [← HM.out, mss_go os k hno.out, List.drop_eq_getElem_cons (show k < os.length by omega)]
        have : os[k]'(by omega) = o := by rw [List.getElem?_eq_getElem (by omega)] at ho; exact Option.some.inj ho
        rw [this]
        unfold mss
        rw [List.find?_cons, hi]
      have st : Hid (isM o = false → ∀ (j : Nat) o', j < k + 1 → os[j]? = some o' → isM o' = false) := by
        intro hi j o' hj hj'
        by_cases e : j = k
        · subst e; rw [ho] at hj'; obtain rfl := Option.some.inj hj'; exact hi
        · exact hno.out j o' (by omega) hj'
      have isd : isM o = (decide (o.ki = 2) && decide (o.d.size = 2)) := rfl
      have ID : Hid (isM o = _) := isd
      obtain ⟨ki, d⟩ := o
      clear hN hno isd HM
      have zB := bel.size
      have hlt' : (k : Int) < (n : Int) := by omega
      have bel1 := bel.alloc zB (.cells (Opt.cells ⟨ki, d⟩) 40)
      go_upto_region 4 with (refine rd_load OK _ rfl _ rfl b off os hc' k _ rfl rfl _ ho (Opt.cells ⟨ki, d⟩) rfl _ Tryd.underlying40 rfl ?_)
      by_cases k2 : ki = 2
      · by_cases d2 : d.size = 2
        · subst k2
          have MM := M1.out (by rw [ID.out]; simp [d2])
          have C := fun u => wordAt_any d 0 u (by omega) (by omega)
          have b1 := wd_bd d 0
          have E : Hid (M = (wd d 0, true)) := MM
          clear MM M1 st ID
          have d2' : (d.size : Int) = 2 := by omega
          go_wp2_with fail
          refine (C _).mono ?_
          rintro e w2 ⟨rfl, q⟩
          have bel2 := bel1.trans (qd_below q)
          clear C q
          go_wp2_with fail
          go_ret2
          exact ⟨by rw [E.out]; rfl, bel2⟩
        · subst k2
          have S := st.out (by rw [ID.out]; simp [d2])
          have S' : Hid (∀ (j : Nat) o', j < k + 1 → os[j]? = some o' → isM o' = false) := S
          clear M1 st ID S
          have d2' : ((d.size : Int) == 2) = false := by simp; omega
          clear d2
          go_wp2_with fail
          go_roundw
          case rel => exact ⟨k + 1, by go_num, by omega, S', bel1⟩
          case measure => simp [intOf]; omega
      · have S := st.out (by rw [ID.out]; simp [k2])
        have S' : Hid (∀ (j : Nat) o', j < k + 1 → os[j]? = some o' → isM o' = false) := S
        clear M1 st ID S
        have k2' : (ki == 2) = false := by simpa using k2
        clear k2
        go_wp2_with fail
        go_roundw
        case rel => exact ⟨k + 1, by go_num, by omega, S', bel1⟩
        case measure => simp [intOf]; omega
    · have hN := HN.out
      have E : Hid (M = (0, false)) := by
        show _ = _
        rw [← HM.out, mss_go os k hno.out, List.drop_eq_nil_of_le (by omega)]; rfl
      have hlt' : ¬ (k : Int) < (n : Int) := by omega
      clear HM hno hN
      go_wp2_with fail
      go_ret2
      exact ⟨by rw [E.out]; rfl, bel⟩
end Go.Proofs.YtpcknkpddinccaaDoor.tcm
