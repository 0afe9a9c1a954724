/- What custref.optionsOf answers, and that it changes nothing that was there. -/
import Derived.Test.YtpcknkpddinccaaDoorTcpRf1
import Derived.Test.YtpcknkpddinccaaDoorTcpRd2
namespace Go.Proofs.YtpcknkpddinccaaDoor.tcf2
open Go.ChangeShapes Go.WideShapes Go.ChangeAt Go.RowKit Go.BigFrame
open Go.Proofs.YtpcknkpddinccaaDoor Go.Proofs.YtpcknkpddinccaaDoor.EM Go.Proofs.YtpcknkpddinccaaDoor.ethb Go.Proofs.YtpcknkpddinccaaDoor.boxes Go.Proofs.YtpcknkpddinccaaDoor.wds Go.Proofs.YtpcknkpddinccaaDoor.tcb Go.Proofs.YtpcknkpddinccaaDoor.tcrb Go.Proofs.YtpcknkpddinccaaDoor.tctr Go.Proofs.YtpcknkpddinccaaDoor.rwr Go.Proofs.YtpcknkpddinccaaDoor.tcr1 Go.Proofs.YtpcknkpddinccaaDoor.tcr2 Go.Proofs.YtpcknkpddinccaaDoor.tcf1
open Go.Proofs.YtpcknkpddinccaaDoor.rws (Knd Own)
open Go.Proofs.YtpcknkpddinccaaDoor.refb (between_any)
open Go.Proofs.YtpcknkpddinccaaDoor.ipm (bytes_ext ext_list size_list)

theorem az_some (l : List UInt8) (h : az l = true) : rdo l = some [] := by
  cases l with
  | nil => exact rdo_nil
  | cons b r =>
    have hb : b = 0 ∧ az r = true := by simpa [az] using h
    rw [hb.1, rdo_zero, if_pos hb.2]
theorem rdo_len : ∀ (n : Nat) (l : List UInt8) (os : List Opt), l.length ≤ n → rdo l = some os → os.length ≤ l.length
  | n, [], os, _, h => by rw [rdo_nil] at h; obtain rfl := Option.some.inj h; simp
  | 0, b :: r, os, hn, h => by simp at hn
  | n + 1, b :: r, os, hn, h => by
    simp only [List.length_cons] at hn
    by_cases b0 : b = 0
    · subst b0
      rw [rdo_zero] at h
      split at h
      · obtain rfl := Option.some.inj h; simp
      · cases h
    by_cases b1 : b = 1
    · subst b1
      rw [rdo_one] at h
      obtain ⟨q, hq, rfl⟩ := Option.map_eq_some_iff.1 h
      have := rdo_len n r q (by omega) hq
      simp; omega
    cases r with
    | nil => rw [rdo_short b b0 b1] at h; cases h
    | cons c q =>
      simp only [List.length_cons] at hn
      rw [rdo_more b c q b0 b1] at h
      split at h
      · obtain ⟨p, hp, rfl⟩ := Option.map_eq_some_iff.1 h
        have := rdo_len n _ p (by rw [List.length_drop]; omega) hp
        rw [List.length_drop] at this
        simp; omega
      · cases h
set_option maxRecDepth 20000 in
set_option maxHeartbeats 4000000 in
theorem optionsOf_any : ∀ (m : Nat) (s : ByteArray) (w : World), s.size ≤ m → s.size ≤ 1000 →
    Calls Tryd.prog 38 #[.string s] w fun e w' => Got w w' (rdo s.data.toList) e ∧ Below w.heap.size w w' := by
  intro m
  induction m with
  | zero =>
    intro s w hm hs
    have xe : s = ⟨#[]⟩ := bytes_ext (List.eq_nil_of_length_eq_zero (by rw [size_list]; omega))
    have RS : rdo s.data.toList = some [] := by rw [xe]; exact rdo_nil
    have CC := fun u => count_any s u
    have ca := count_az s
    rw [xe] at ca
    have ca' : (((s.data.toList.count 0 : Nat) : Int) == (s.size : Int)) = true := by rw [xe, ca]; rfl
    generalize ((s.data.toList.count 0 : Nat) : Int) = c at *
    rw [RS]
    have HG : Hid (∀ (w' : World) v b, b = true → Own OK w' w.heap.size v [] → Got w w' (some []) (.returned (.tuple #[v, .bool b]))) := fun w' v b h1 h2 => ⟨v, b, rfl, h1, fun os h => by obtain rfl := Option.some.inj h; exact h2⟩
    generalize Got w = G at *
    clear ca xe RS
    go_enter Tryd.func38, Tryd.ntmps38
    go_wp2_with fail
    refine (CC _).mono ?_
    rintro e w ⟨rfl, rfl⟩
    go_wp2_with fail
    go_ret2
    exact ⟨HG.out _ _ _ rfl (Own.nil _ _ _), Below.refl _ _⟩
  | succ m ih =>
    intro s w hm hs
    have CC := fun u => count_any s u
    have ca := count_az s
    obtain ⟨R, HR⟩ : ∃ R, Hid (rdo s.data.toList = R) := ⟨_, (rfl : _ = _)⟩
    rw [HR.out]
    have HG : Hid (∀ (w' : World) v b, b = R.isSome → (∀ os, R = some os → Own OK w' w.heap.size v os) → Got w w' R (.returned (.tuple #[v, .bool b]))) := fun w' v b h1 h2 => ⟨v, b, rfl, h1, h2⟩
    have IH : Hid (∀ (y : ByteArray) (u : World), y.size ≤ m → y.size ≤ 1000 → Calls Tryd.prog 38 #[.string y] u fun e w' => Got u w' (rdo y.data.toList) e ∧ Below u.heap.size u w') := ih
    clear ih
    obtain ⟨G, eG⟩ : ∃ G, G = Got w := ⟨_, rfl⟩
    rw [← eG] at HG ⊢
    clear eG
    generalize ((s.data.toList.count 0 : Nat) : Int) = cn at *
    by_cases ha : az s.data.toList = true
    · have RS : Hid (R = some []) := by show _ = _; rw [← HR.out, az_some _ ha]
      rw [ha] at ca
      clear HR IH ha
      go_enter Tryd.func38, Tryd.ntmps38
      go_wp2_with fail
      refine (CC _).mono ?_
      rintro e w ⟨rfl, rfl⟩
      go_wp2_with fail
      go_ret2
      exact ⟨HG.out _ _ _ (by rw [RS.out]; rfl) (fun os h => by rw [RS.out] at h; obtain rfl := Option.some.inj h; exact Own.nil _ _ _), Below.refl _ _⟩
    have ha' : az s.data.toList = false := by simpa using ha
    rw [ha'] at ca
    have h0 : 0 < s.size := by
      by_cases hz : s.size = 0
      · have xe : s = ⟨#[]⟩ := bytes_ext (List.eq_nil_of_length_eq_zero (by rw [size_list]; exact hz))
        rw [xe] at ha; exact absurd rfl ha
      · omega
    have h0' : (0 : Int) < s.size := by omega
    have hi : ∀ u, (Instr.index 9 (.string s) (.int .i64 0)).run Tryd.prog u = .ok (.int .u8 (bt s 0)) u := fun u => by simpa using index_at s 0 h0 u
    by_cases c0 : bt s 0 = 0
    · have RS : Hid (R = none) := by show _ = _; rw [← HR.out, step_zero s h0 c0, if_neg ha]
      rw [c0] at hi
      clear HR IH ha ha' c0
      go_enter Tryd.func38, Tryd.ntmps38
      go_wp2_with fail
      refine (CC _).mono ?_
      rintro e w ⟨rfl, rfl⟩
      go_wp2_with fail
      go_ret2
      exact ⟨HG.out _ _ _ (by rw [RS.out]; rfl) (fun os h => by rw [RS.out] at h; cases h), Below.refl _ _⟩
    have c0' : (bt s 0 == 0) = false := by simpa using c0
    have b0 := bt_bd s 0
    by_cases c1 : bt s 0 = 1
    · have st := step_one s h0 c1
      have sl : ∀ u, (Instr.slice 9 (.string s) (some (.int .i64 1)) none none).run Tryd.prog u = .ok (.string (s.extract 1 s.size)) u := fun u => by
        have := run_slice_string_l u 9 s Tryd.underlying9 .i64 1 (by omega) (by omega)
        simpa using this
      have z1 : (s.extract 1 s.size).size = s.size - 1 := by rw [ByteArray.size_extract]; omega
      have CI := fun u => IH.out (s.extract 1 s.size) u (by omega) (by omega)
      have E1 : Hid ((rdo (s.extract 1 s.size).data.toList).map ((⟨1, ⟨#[]⟩⟩ : Opt) :: ·) = R) := by show _ = _; rw [← st]; exact HR.out
      have hln : ∀ os, rdo (s.extract 1 s.size).data.toList = some os → os.length ≤ 1000 := fun os h => by
        have := rdo_len _ _ os (Nat.le_refl _) h
        rw [size_list] at this; omega
      generalize rdo (s.extract 1 s.size).data.toList = r at *
      generalize s.extract 1 s.size = y at *
      rw [c1] at hi
      have D1 := Blk.new w (Opt.cells ⟨1, ⟨#[]⟩⟩) 40
      have b1 := (Below.refl w.heap.size w).alloc (Nat.le_refl _) (.cells (Opt.cells ⟨1, ⟨#[]⟩⟩) 40)
      clear st HR IH ha ha' c0 c0' c1 b0
      go_enter Tryd.func38, Tryd.ntmps38
      go_wp2_with fail
      refine (CC _).mono ?_
      rintro e w ⟨rfl, rfl⟩
      clear CC
      go_wp2_with fail
      refine (CI _).mono ?_
      rintro e w2 ⟨⟨v2, q2, rfl, hq2, ho2⟩, l2⟩
      have D2 := D1.below l2 D1.lt
      have b2 := b1.trans (l2.mono b1.size)
      clear CI D1 b1
      cases r with
      | none =>
        have q2' : q2 = false := hq2
        subst q2'
        have RS : Hid (R = none) := by show _ = _; rw [← E1.out]; rfl
        clear E1 hq2 ho2 hln
        go_wp2_with fail
        go_ret2
        exact ⟨HG.out _ _ _ (by rw [RS.out]; rfl) (fun os h => by rw [RS.out] at h; cases h), b2⟩
      | some os =>
        have q2' : q2 = true := hq2
        subst q2'
        have o2 := Own.rd (ho2 os rfl)
        have on := hln os rfl
        have RS : Hid (R = some ([⟨1, ⟨#[]⟩⟩] ++ os)) := by show _ = _; rw [← E1.out]; rfl
        obtain ⟨sa, sc, rfl⟩ := o2.form
        have z2 := b2.size
        have d2t := D2.lt
        clear E1 hq2 ho2 hln
        have o3 := Own.lit OK w2 w.heap.size z2 [⟨1, ⟨#[]⟩⟩] (by decide) (Opt.cells ⟨1, ⟨#[]⟩⟩) (by rfl)
        have r3 := o2.below ((Below.refl w2.heap.size w2).alloc (Nat.le_refl _) (.cells (Opt.cells ⟨1, ⟨#[]⟩⟩) 40))
        have b3 := b2.alloc z2 (.cells (Opt.cells ⟨1, ⟨#[]⟩⟩) 40)
        go_wp2_with (first
          | (at_builtin; refine app_rd OK _ rfl _ _ rfl w.heap.size _ [⟨1, ⟨#[]⟩⟩] rfl o3 (.slice sa os.length sc) os rfl r3 (by unfold maxLen; simp; omega) (by show (1 + os.length) * 24 ≤ _; omega) (by simp; omega) ?_; intro v4 W4 O4 c4 _)
          | refine blk_load _ rfl 40 _ rfl w.heap.size rfl _ _ D2 _ Tryd.underlying40 rfl 2 op_info rfl ?_)
        have b4 := b3.trans c4
        clear o2 o3 r3 b3 c4 D2 b2
        go_wp2_with fail
        go_ret2
        exact ⟨HG.out _ _ _ (by rw [RS.out]; rfl) (fun os' h => by rw [RS.out] at h; obtain rfl := Option.some.inj h; exact O4), b4⟩
    have c1' : (bt s 0 == 1) = false := by simpa using c1
    have g1 : (1 : Int) < bt s 0 := by omega
    by_cases c2 : s.size < 2
    · have st := step_short s (by omega) c0 c1
      have RS : Hid (R = none) := by show _ = _; rw [← HR.out, st]
      have c2' : (s.size : Int) < 2 := by omega
      have b1 := fun x => (Below.refl w.heap.size w).alloc (Nat.le_refl _) (.cells (Opt.cells ⟨x, ⟨#[]⟩⟩) 40)
      generalize bt s 0 = c at *
      obtain ⟨cb0, cb1⟩ := b0
      clear st HR IH ha ha' c0 c1 c1'
      go_enter Tryd.func38, Tryd.ntmps38
      go_wp2_with fail
      refine (CC _).mono ?_
      rintro e w ⟨rfl, rfl⟩
      clear CC
      go_wp2_with fail
      go_ret2
      exact ⟨HG.out _ _ _ (by rw [RS.out]; rfl) (fun os h => by rw [RS.out] at h; cases h), b1 c⟩
    have hi1 : ∀ u, (Instr.index 9 (.string s) (.int .i64 1)).run Tryd.prog u = .ok (.int .u8 (bt s 1)) u := fun u => by simpa using index_at s 1 (by omega) u
    have c2' : ¬ (s.size : Int) < 2 := by omega
    have b1 := bt_bd s 1
    obtain ⟨n, hn⟩ : ∃ n : Nat, bt s 1 = n := ⟨(bt s 1).toNat, by omega⟩
    have st := step_more s (by omega) c0 c1 n hn
    rw [hn] at b1 hi1
    have n1 := b1.2
    have CB := fun u => between_any (n : Int) 2 (s.size : Int) u
    by_cases g : 2 ≤ n ∧ n ≤ s.size
    case neg =>
      rw [decide_eq_false (show ¬ (2 ≤ (n : Int) ∧ (n : Int) ≤ (s.size : Int)) by omega)] at CB
      have RS : Hid (R = none) := by show _ = _; rw [← HR.out, st, if_neg g]
      have b1 := fun x => (Below.refl w.heap.size w).alloc (Nat.le_refl _) (.cells (Opt.cells ⟨x, ⟨#[]⟩⟩) 40)
      generalize bt s 0 = c at *
      obtain ⟨cb0, cb1⟩ := b0
      clear st HR IH ha ha' c0 c1 c1' hn g
      go_enter Tryd.func38, Tryd.ntmps38
      go_wp2_with fail
      refine (CC _).mono ?_
      rintro e w ⟨rfl, rfl⟩
      clear CC
      go_wp2_with fail
      refine (CB _).mono ?_
      rintro e w1 ⟨rfl, rfl⟩
      go_wp2_with fail
      go_ret2
      exact ⟨HG.out _ _ _ (by rw [RS.out]; rfl) (fun os h => by rw [RS.out] at h; cases h), b1 c⟩
    rw [decide_eq_true (show (2 ≤ (n : Int) ∧ (n : Int) ≤ (s.size : Int)) by omega)] at CB
    rw [if_pos g] at st
    obtain ⟨g2, g3⟩ := g
    have sl : ∀ u, (Instr.slice 9 (.string s) (some (.int .i64 (n : Int))) none none).run Tryd.prog u = .ok (.string (s.extract n s.size)) u := fun u => by
      have := run_slice_string_l u 9 s Tryd.underlying9 .i64 (n : Int) (by omega) (by omega)
      simpa using this
    have sm : ∀ u, (Instr.slice 9 (.string s) (some (.int .i64 2)) (some (.int .i64 (n : Int))) none).run Tryd.prog u = .ok (.string (s.extract 2 n)) u := fun u => by
      have := run_slice_string u 9 s .i64 .i64 2 (n : Int) Tryd.underlying9 (by omega) (by omega) (by omega)
      simpa using this
    have z1 : (s.extract n s.size).size = s.size - n := by rw [ByteArray.size_extract]; omega
    have CI := fun u => IH.out (s.extract n s.size) u (by omega) (by omega)
    have E1 : Hid ((rdo (s.extract n s.size).data.toList).map ((⟨bt s 0, s.extract 2 n⟩ : Opt) :: ·) = R) := by show _ = _; rw [← st]; exact HR.out
    have hln : ∀ os, rdo (s.extract n s.size).data.toList = some os → os.length ≤ 1000 := fun os h => by
      have := rdo_len _ _ os (Nat.le_refl _) h
      rw [size_list] at this; omega
    generalize rdo (s.extract n s.size).data.toList = r at *
    generalize s.extract n s.size = y at *
    generalize s.extract 2 n = d at *
    generalize bt s 0 = c at *
    obtain ⟨cb0, cb1⟩ := b0
    have D1 := Blk.new w (Opt.cells ⟨c, d⟩) 40
    have b1 := (Below.refl w.heap.size w).alloc (Nat.le_refl _) (.cells (Opt.cells ⟨c, d⟩) 40)
    clear st HR IH ha ha' c0 c1 c1' hn
    go_enter Tryd.func38, Tryd.ntmps38
    go_wp2_with fail
    refine (CC _).mono ?_
    rintro e w ⟨rfl, rfl⟩
    clear CC
    go_wp2_with fail
    refine (CB _).mono ?_
    rintro e w1 ⟨rfl, rfl⟩
    clear CB
    go_wp2_with fail
    refine (CI _).mono ?_
    rintro e w2 ⟨⟨v2, q2, rfl, hq2, ho2⟩, l2⟩
    have D2 := D1.below l2 D1.lt
    have b2 := b1.trans (l2.mono b1.size)
    clear CI D1 b1
    cases r with
    | none =>
      have q2' : q2 = false := hq2
      subst q2'
      have RS : Hid (R = none) := by show _ = _; rw [← E1.out]; rfl
      clear E1 hq2 ho2 hln
      go_wp2_with fail
      go_ret2
      exact ⟨HG.out _ _ _ (by rw [RS.out]; rfl) (fun os h => by rw [RS.out] at h; cases h), b2⟩
    | some os =>
      have q2' : q2 = true := hq2
      subst q2'
      have o2 := Own.rd (ho2 os rfl)
      have on := hln os rfl
      have RS : Hid (R = some ([⟨c, d⟩] ++ os)) := by show _ = _; rw [← E1.out]; rfl
      obtain ⟨sa, sc, rfl⟩ := o2.form
      have z2 := b2.size
      have d2t := D2.lt
      clear E1 hq2 ho2 hln
      have o3 := Own.lit OK w2 w.heap.size z2 [⟨c, d⟩] (by unfold maxLen; simp) (Opt.cells ⟨c, d⟩) (by rfl)
      have r3 := o2.below ((Below.refl w2.heap.size w2).alloc (Nat.le_refl _) (.cells (Opt.cells ⟨c, d⟩) 40))
      have b3 := b2.alloc z2 (.cells (Opt.cells ⟨c, d⟩) 40)
      go_wp2_with (first
        | (at_builtin; refine app_rd OK _ rfl _ _ rfl w.heap.size _ [⟨c, d⟩] rfl o3 (.slice sa os.length sc) os rfl r3 (by unfold maxLen; simp; omega) (by show (1 + os.length) * 24 ≤ _; omega) (by simp; omega) ?_; intro v4 W4 O4 c4 _)
        | refine blk_load _ rfl 40 _ rfl w.heap.size rfl _ _ D2 _ Tryd.underlying40 rfl 2 op_info rfl ?_)
      have b4 := b3.trans c4
      clear o2 o3 r3 b3 c4 D2 b2
      go_wp2_with fail
      go_ret2
      exact ⟨HG.out _ _ _ (by rw [RS.out]; rfl) (fun os' h => by rw [RS.out] at h; obtain rfl := Option.some.inj h; exact O4), b4⟩
end Go.Proofs.YtpcknkpddinccaaDoor.tcf2
