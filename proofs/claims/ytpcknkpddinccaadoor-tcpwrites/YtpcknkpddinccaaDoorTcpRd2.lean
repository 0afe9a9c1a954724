/- What tcp.readOptions answers, and that it changes nothing that was there. -/
import Derived.Test.YtpcknkpddinccaaDoorTcpRd1
namespace Go.Proofs.YtpcknkpddinccaaDoor.tcr2
open Go.ChangeShapes Go.WideShapes Go.ChangeAt Go.RowKit Go.BigFrame
open Go.Proofs.YtpcknkpddinccaaDoor Go.Proofs.YtpcknkpddinccaaDoor.EM Go.Proofs.YtpcknkpddinccaaDoor.ethb Go.Proofs.YtpcknkpddinccaaDoor.boxes Go.Proofs.YtpcknkpddinccaaDoor.wds Go.Proofs.YtpcknkpddinccaaDoor.tcb Go.Proofs.YtpcknkpddinccaaDoor.tcrb Go.Proofs.YtpcknkpddinccaaDoor.tctr Go.Proofs.YtpcknkpddinccaaDoor.rwr Go.Proofs.YtpcknkpddinccaaDoor.tcr1
open Go.Proofs.YtpcknkpddinccaaDoor.rws (Knd Own app_one)
open Go.Proofs.YtpcknkpddinccaaDoor.ipm (bytes_ext ext_list size_list)

/-- what readOptions hands back -/
def Got (w w' : World) (r : Option (List Opt)) (e : Ending) : Prop := ∃ v b, e = .returned (.tuple #[v, .bool b]) ∧ b = r.isSome ∧ (∀ os, r = some os → Own OK w' w.heap.size v os)
set_option maxRecDepth 20000 in
set_option maxHeartbeats 2000000 in
theorem readOptions_any (s : ByteArray) (w : World) (hs : s.size ≤ 1000) :
    Calls Tryd.prog 34 #[.string s] w fun e w' => Got w w' (rdo s.data.toList) e ∧ Below w.heap.size w w' := by
  obtain ⟨R, HR⟩ : ∃ R, Hid (rdo s.data.toList = R) := ⟨_, (rfl : _ = _)⟩
  rw [HR.out]
  have HG : Hid (∀ (w' : World) v b, b = R.isSome → (∀ os, R = some os → Own OK w' w.heap.size v os) → Got w w' R (.returned (.tuple #[v, .bool b]))) := fun w' v b h1 h2 => ⟨v, b, rfl, h1, h2⟩
  generalize Got w = G at *
  go_enter Tryd.func34, Tryd.ntmps34
  go_wp2_with fail
  go_loopw [0, 4] (fun v o wr => ∃ (x : ByteArray) (acc : List Opt), v = .string x ∧ acc.length + x.size ≤ 1000 ∧ Own OK wr w.heap.size o acc ∧ Hid ((rdo x.data.toList).map (acc ++ ·) = R) ∧ Below w.heap.size w wr) (fun v _ _ => zs v)
  case atStart => exact ⟨s, [], rfl, by simpa using hs, Own.nil _ _ _, by show _ = _; rw [HR.out]; cases R <;> simp, Below.refl _ _⟩
  case round =>
    obtain ⟨x, acc, rfl, xz, own, E, bel⟩ := hrel
    clear HR hs
    have zB := bel.size
    by_cases h0 : 0 < x.size
    case neg =>
      have h0' : ¬ (0 : Int) < x.size := by omega
      have xe : x = ⟨#[]⟩ := bytes_ext (List.eq_nil_of_length_eq_zero (by rw [size_list]; omega))
      have RS : Hid (R = some acc) := by show _ = _; rw [← E.out, xe]; show (rdo []).map _ = _; rw [rdo_nil]; simp
      have CT := fun u => trim_any x u (by omega)
      have te : tz x = ⟨#[]⟩ := by rw [xe]; rfl
      rw [te] at CT
      clear E te xe
      go_wp2_with fail
      refine (CT _).mono ?_
      rintro e w1 ⟨rfl, b1⟩
      have own1 := own.kept b1
      have bel1 := bel.trans (b1.mono zB)
      clear own bel b1 CT
      go_wp2_with fail
      go_ret2
      exact ⟨HG.out _ _ _ (by rw [RS.out]; rfl) (fun os h => by rw [RS.out] at h; obtain rfl := Option.some.inj h; exact own1), bel1⟩
    have h0' : (0 : Int) < x.size := by omega
    have hi : ∀ u, (Instr.index 9 (.string x) (.int .i64 0)).run Tryd.prog u = .ok (.int .u8 (bt x 0)) u := fun u => by simpa using index_at x 0 h0 u
    by_cases c0 : bt x 0 = 0
    · have st := step_zero x h0 c0
      have CT := fun u => trim_any x u (by omega)
      have tzs := tz_size x
      rw [c0] at hi
      by_cases ha : az x.data.toList = true
      · have RS : Hid (R = some acc) := by show _ = _; rw [← E.out, st, if_pos ha]; simp
        have te : tz x = ⟨#[]⟩ := by
          rw [ha] at tzs
          exact bytes_ext (List.eq_nil_of_length_eq_zero (by rw [size_list]; simpa using tzs))
        rw [te] at CT
        clear E te st tzs ha c0
        go_wp2_with fail
        refine (CT _).mono ?_
        rintro e w1 ⟨rfl, b1⟩
        have own1 := own.kept b1
        have bel1 := bel.trans (b1.mono zB)
        clear own bel b1 CT
        go_wp2_with fail
        go_ret2
        exact ⟨HG.out _ _ _ (by rw [RS.out]; rfl) (fun os h => by rw [RS.out] at h; obtain rfl := Option.some.inj h; exact own1), bel1⟩
      · have RS : Hid (R = none) := by show _ = _; rw [← E.out, st, if_neg ha]; rfl
        have te : ((tz x).toList == []) = false := by
          have h1 : (tz x).size ≠ 0 := by
            intro hh
            rw [decide_eq_true hh] at tzs
            exact ha tzs.symm
          have : (tz x).toList.length ≠ 0 := by rw [ByteArray.toList_eq, size_list]; exact h1
          cases hh : (tz x).toList with
          | nil => rw [hh] at this; simp at this
          | cons a b => rfl
        generalize tz x = T at *
        clear E st tzs ha c0
        go_wp2_with fail
        refine (CT _).mono ?_
        rintro e w1 ⟨rfl, b1⟩
        have bel1 := bel.trans (b1.mono zB)
        clear own bel b1 CT
        go_wp2_with fail
        go_ret2
        exact ⟨HG.out _ _ _ (by rw [RS.out]; rfl) (fun os h => by rw [RS.out] at h; cases h), bel1⟩
    have c0' : (bt x 0 == 0) = false := by simpa using c0
    have b0 := bt_bd x 0
    have CO := fun u => optionLong_any x u (by omega) h0
    by_cases c1 : bt x 0 = 1
    · have st := step_one x h0 c1
      have eo : olg x = (1, true) := by unfold olg; rw [if_pos c1]
      rw [eo] at CO
      have sl : ∀ u, (Instr.slice 9 (.string x) (some (.int .i64 1)) none none).run Tryd.prog u = .ok (.string (x.extract 1 x.size)) u := fun u => by
        have := run_slice_string_l u 9 x Tryd.underlying9 .i64 1 (by omega) (by omega)
        simpa using this
      have E1 : Hid ((rdo (x.extract 1 x.size).data.toList).map ((acc ++ [⟨1, ⟨#[]⟩⟩]) ++ ·) = R) := by show _ = _; rw [← map_app, ← st]; exact E.out
      have z1 : (x.extract 1 x.size).size = x.size - 1 := by rw [ByteArray.size_extract]; omega
      generalize x.extract 1 x.size = y at *
      rw [c1] at hi
      clear E st eo c0' b0 c0 c1
      go_wp2_with fail
      refine (CO _).mono ?_
      rintro e wr ⟨rfl, rfl⟩
      clear CO
      have D2 := Blk.new wr (Opt.cells ⟨1, ⟨#[]⟩⟩) 40
      have own2 := own.alloc (.cells (Opt.cells ⟨1, ⟨#[]⟩⟩) 40)
      have bel2 := bel.alloc zB (.cells (Opt.cells ⟨1, ⟨#[]⟩⟩) 40)
      go_upto_region 9 with fail
      change Code.wp _ _ _ _ (wr.alloc (.cells (Opt.cells ⟨1, ⟨#[]⟩⟩) 40))
      have z2 := bel2.size
      generalize wr.alloc (.cells (Opt.cells ⟨1, ⟨#[]⟩⟩) 40) = V at *
      go_wp2_with (first
        | (at_builtin; refine app_one OK _ rfl _ _ rfl w.heap.size _ acc rfl (own2.alloc _) V.heap.size 1 ⟨1, ⟨#[]⟩⟩ _ rfl (Blk.new _ _ _) (by unfold maxLen; omega) (by show (acc.length + 1) * 24 ≤ _; omega) (by simp; omega) ?_; intro v4 W4 O4 c4 _)
        | refine blk_load _ rfl 40 _ rfl wr.heap.size rfl _ _ D2 _ Tryd.underlying40 rfl 2 op_info rfl ?_)
      have b4 := (bel2.alloc z2 _).trans c4
      clear own own2 bel bel2 c4 D2
      go_wp2_with fail
      go_roundw
      case rel => exact ⟨_, _, rfl, by simp; omega, O4, E1, b4⟩
      case measure => simp [zs]; omega
    have c1' : (bt x 0 == 1) = false := by simpa using c1
    by_cases c2 : x.size < 2
    · have st := step_short x (by omega) c0 c1
      have eo : olg x = (0, false) := by unfold olg; rw [if_neg c1, if_pos c2]
      rw [eo] at CO
      have RS : Hid (R = none) := by show _ = _; rw [← E.out, st]; rfl
      clear E st eo c0 c1 c1'
      generalize bt x 0 = c at *
      go_wp2_with fail
      refine (CO _).mono ?_
      rintro e wr ⟨rfl, rfl⟩
      clear CO
      go_wp2_with fail
      go_ret2
      exact ⟨HG.out _ _ _ (by rw [RS.out]; rfl) (fun os h => by rw [RS.out] at h; cases h), bel⟩
    have b1 := bt_bd x 1
    obtain ⟨n, hn⟩ : ∃ n : Nat, bt x 1 = n := ⟨(bt x 1).toNat, by omega⟩
    have st := step_more x (by omega) c0 c1 n hn
    have eo : olg x = ((n : Int), decide (2 ≤ (n : Int)) && decide ((n : Int) ≤ x.size)) := by unfold olg; rw [if_neg c1, if_neg c2, hn]
    rw [hn] at b1
    have n1 := b1.2
    by_cases g : 2 ≤ n ∧ n ≤ x.size
    case neg =>
      have eo2 : olg x = ((n : Int), false) := by
        rw [eo]
        by_cases g1 : 2 ≤ n
        · rw [decide_eq_false (show ¬ (n : Int) ≤ x.size by omega)]; simp
        · rw [decide_eq_false (show ¬ 2 ≤ (n : Int) by omega)]; rfl
      rw [eo2] at CO
      have RS : Hid (R = none) := by show _ = _; rw [← E.out, st, if_neg g]; rfl
      clear E st eo eo2 c0 c1 c1' hn b1
      generalize bt x 0 = c at *
      go_wp2_with fail
      refine (CO _).mono ?_
      rintro e wr ⟨rfl, rfl⟩
      clear CO
      go_wp2_with fail
      go_ret2
      exact ⟨HG.out _ _ _ (by rw [RS.out]; rfl) (fun os h => by rw [RS.out] at h; cases h), bel⟩
    obtain ⟨g1, g2⟩ := g
    rw [if_pos ⟨g1, g2⟩] at st
    have eo2 : olg x = ((n : Int), true) := by
      rw [eo, decide_eq_true (show 2 ≤ (n : Int) by omega), decide_eq_true (show (n : Int) ≤ x.size by omega)]; rfl
    rw [eo2] at CO
    have E1 : Hid ((rdo (x.extract n x.size).data.toList).map ((acc ++ [⟨bt x 0, x.extract 2 n⟩]) ++ ·) = R) := by show _ = _; rw [← map_app, ← st]; exact E.out
    have sl : ∀ u, (Instr.slice 9 (.string x) (some (.int .i64 (n : Int))) none none).run Tryd.prog u = .ok (.string (x.extract n x.size)) u := fun u => by
      have := run_slice_string_l u 9 x Tryd.underlying9 .i64 (n : Int) (by omega) (by omega)
      simpa using this
    have sm : ∀ u, (Instr.slice 9 (.string x) (some (.int .i64 2)) (some (.int .i64 (n : Int))) none).run Tryd.prog u = .ok (.string (x.extract 2 n)) u := fun u => by
      have := run_slice_string u 9 x .i64 .i64 2 (n : Int) Tryd.underlying9 (by omega) (by omega) (by omega)
      simpa using this
    have z1 : (x.extract n x.size).size = x.size - n := by rw [ByteArray.size_extract]; omega
    generalize x.extract n x.size = y at *
    generalize x.extract 2 n = d at *
    generalize bt x 0 = c at *
    have cb0 := b0.1
    have cb1 := b0.2
    clear E st eo eo2 c0 c1 hn b1 b0
    go_wp2_with fail
    refine (CO _).mono ?_
    rintro e wr ⟨rfl, rfl⟩
    clear CO
    have D2 := Blk.new wr (Opt.cells ⟨c, d⟩) 40
    have own2 := own.alloc (.cells (Opt.cells ⟨c, d⟩) 40)
    have bel2 := bel.alloc zB (.cells (Opt.cells ⟨c, d⟩) 40)
    go_upto_region 9 with fail
    change Code.wp _ _ _ _ (wr.alloc (.cells (Opt.cells ⟨c, d⟩) 40))
    have z2 := bel2.size
    generalize wr.alloc (.cells (Opt.cells ⟨c, d⟩) 40) = V at *
    go_wp2_with (first
      | (at_builtin; refine app_one OK _ rfl _ _ rfl w.heap.size _ acc rfl (own2.alloc _) V.heap.size 1 ⟨c, d⟩ _ rfl (Blk.new _ _ _) (by unfold maxLen; omega) (by show (acc.length + 1) * 24 ≤ _; omega) (by simp; omega) ?_; intro v4 W4 O4 c4 _)
      | refine blk_load _ rfl 40 _ rfl wr.heap.size rfl _ _ D2 _ Tryd.underlying40 rfl 2 op_info rfl ?_)
    have b4 := (bel2.alloc z2 _).trans c4
    clear own own2 bel bel2 c4 D2
    go_wp2_with fail
    go_roundw
    case rel => exact ⟨_, _, rfl, by simp; omega, O4, E1, b4⟩
    case measure => simp [zs]; omega
end Go.Proofs.YtpcknkpddinccaaDoor.tcr2
