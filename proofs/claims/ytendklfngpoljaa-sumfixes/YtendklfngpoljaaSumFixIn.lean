/- SumFixes, where its conditions hold. -/
import Derived.Test.YtendklfngpoljaaSumFixOut
import Derived.Deep.RegionWith
import Derived.Deep.DeepCutAuto
import Derived.WalkSpells
import Derived.Lib.Strings
import Derived.Lib.IndexBytes
namespace Go.Proofs.Ytendklfngpoljaa.sumf
open Go.ChangeShapes Go.WideShapes Go.ChangeAt Go.RowKit
open Go.Proofs.Ytendklfngpoljaa.SM Go.Proofs.Ytendklfngpoljaa.sumw Go.Proofs.Ytendklfngpoljaa.sumk Go.Proofs.Ytendklfngpoljaa.sumc
theorem old_word (x y : UInt8) : bits .or .u16 (IntKind.u16.wrap (IntKind.u16.wrap (x.toNat : Int) * 256)) (IntKind.u16.wrap (y.toNat : Int)) = 256 * (x.toNat : Int) + (y.toNat : Int) := by
  have hx := byte_bd x; have hy := byte_bd y
  rw [IntKind.wrap_u16, IntKind.wrap_u16, IntKind.wrap_u16]
  rw [Int.emod_eq_of_lt (by omega : 0 ≤ (x.toNat : Int)) (by omega), Int.emod_eq_of_lt (by omega : 0 ≤ (x.toNat : Int) * 256) (by omega), Int.emod_eq_of_lt (by omega : 0 ≤ (y.toNat : Int)) (by omega)]
  exact word_or _ _ hx.1 hx.2 hy.1 hy.2
/-- what Fix comes to -/
def fixed (c o n : Int) : Int := 65535 - ea (ea (65535 - c) (65535 - o)) n
theorem fix_bd (c o n : Int) (h0 : 0 ≤ c) (h1 : c ≤ 65535) (h2 : 0 ≤ o) (h3 : o ≤ 65535) (h4 : 0 ≤ n) (h5 : n ≤ 65535) : 0 ≤ fixed c o n ∧ fixed c o n ≤ 65535 := by
  have e1 := ea_bd (65535 - c) (65535 - o) (by omega) (by omega) (by omega) (by omega)
  have e2 := ea_bd (ea (65535 - c) (65535 - o)) n e1.1 e1.2 h4 h5
  unfold fixed; omega
theorem len_data (t : ByteArray) : t.data.toList.length = t.size := by simp
theorem t_size (s : ByteArray) (k : Nat) (y : Int) (h : k + 1 < s.size) : (s.extract 0 k ++ wb y ++ s.extract (k + 2) s.size).size = s.size := by
  simp only [ByteArray.size_append, ByteArray.size_extract, wb_size]; omega
theorem t_data (s : ByteArray) (k : Nat) (y : Int) : (s.extract 0 k ++ wb y ++ s.extract (k + 2) s.size).data.toList = s.data.toList.take k ++ ((wb y).data.toList ++ s.data.toList.drop (k + 2)) := by
  rw [app_data, app_data, Lib.extract_to_end, Lib.extract_data, List.append_assoc]
  simp
theorem s_data (s : ByteArray) (k : Nat) (h : k + 1 < s.size) : s.data.toList = s.data.toList.take k ++ (s[k] :: s[k + 1] :: s.data.toList.drop (k + 2)) := by
  have hl : s.data.toList.length = s.size := by simp
  have h1 := List.take_append_drop k s.data.toList
  rw [List.drop_eq_getElem_cons (by omega : k < s.data.toList.length), List.drop_eq_getElem_cons (by omega : k + 1 < s.data.toList.length)] at h1
  exact h1.symm
theorem fixes (s : ByteArray) (k : Nat) (y : Int) (h : ¬ (s.size : Int) % 2 = 1) (h2 : ¬ (k : Int) % 2 = 1) (h3 : k + 1 < s.size) (h4 : 0 ≤ y) (h5 : y ≤ 65535)
    (hall : ¬ (s.extract 0 k ++ wb y ++ s.extract (k + 2) s.size).data.toList.count 0 = (s.extract 0 k ++ wb y ++ s.extract (k + 2) s.size).data.toList.length) :
    wsum 0 (s.extract 0 k ++ wb y ++ s.extract (k + 2) s.size ++ wb (fixed (65535 - wsum 0 s.data.toList) (256 * (s[k].toNat : Int) + (s[k + 1].toNat : Int)) y)).data.toList = 65535 := by
  have hpos := pw_pos _ hall
  have hl : s.data.toList.length = s.size := by simp
  have htk : (s.data.toList.take k).length = k := by rw [List.length_take]; omega
  have hb0 := byte_bd s[k]
  have hb1 := byte_bd s[k + 1]
  have ps : pw s.data.toList = pw (s.data.toList.take k) + (256 * (s[k].toNat : Int) + (s[k + 1].toNat : Int) + pw (s.data.toList.drop (k + 2))) := by
    have e := congrArg pw (s_data s k h3)
    rw [pw_append _ _ (by omega)] at e
    exact e
  have pt : pw (s.extract 0 k ++ wb y ++ s.extract (k + 2) s.size).data.toList = pw (s.data.toList.take k) + (y + pw (s.data.toList.drop (k + 2))) := by
    rw [t_data, pw_append _ _ (by omega), pw_append _ _ (by rw [wb_data]; simp), pw_wb y h4 h5]
  have hts := t_size s k y h3
  have htl := len_data (s.extract 0 k ++ wb y ++ s.extract (k + 2) s.size)
  generalize s.extract 0 k ++ wb y ++ s.extract (k + 2) s.size = t at *
  have ws := wsum_norm 0 s.data.toList (by omega) (by omega)
  have wbd := wsum_bd 0 s.data.toList (by omega) (by omega)
  have p1 := pw_nonneg (s.data.toList.take k)
  have p2 := pw_nonneg (s.data.toList.drop (k + 2))
  generalize ho : 256 * (s[k].toNat : Int) + (s[k + 1].toNat : Int) = o at *
  have ob : 0 ≤ o ∧ o ≤ 65535 := by omega
  have cb := fix_bd (65535 - wsum 0 s.data.toList) o y (by omega) (by omega) ob.1 ob.2 h4 h5
  rw [wsum_norm _ _ (by omega) (by omega), app_data, pw_append _ _ (by omega), pw_wb _ cb.1 cb.2]
  have e1 : ea (65535 - (65535 - wsum 0 s.data.toList)) (65535 - o) = norm (pw s.data.toList + (65535 - o)) := by
    rw [ea_norm _ _ (by omega) (by omega) (by omega) (by omega)]
    have : 65535 - (65535 - wsum 0 s.data.toList) = norm (pw s.data.toList) := by rw [ws, Int.zero_add]; omega
    rw [this, norm_add _ _ (pw_nonneg _) (by omega)]
  have nb := norm_bd (pw s.data.toList + (65535 - o))
  have e2 : fixed (65535 - wsum 0 s.data.toList) o y = 65535 - norm (pw s.data.toList + (65535 - o) + y) := by
    unfold fixed
    rw [e1, ea_norm _ _ nb.1 nb.2 h4 h5, norm_add _ _ (by omega) h4]
  rw [e2]
  have e3 : pw s.data.toList + (65535 - o) + y = pw t.data.toList + 65535 := by omega
  rw [e3]
  unfold norm
  rw [if_neg (by omega)]
  rw [if_neg (by omega)]
  omega
theorem val_int {k : IntKind} {a b : Int} (h : a = b) : Value.int k a = .int k b := by rw [h]
set_option maxHeartbeats 800000 in
theorem inside (s : ByteArray) (k : Nat) (y : Int) (w : World) (h : ((s.size : Int) % 2 == 1) = false) (hx2 : ((k : Int) % 2 == 1) = false) (hx3 : k + 1 < s.size) (hs : s.size ≤ 140737488351232) (hy0 : 0 ≤ y) (hy1 : y ≤ 65535) :
    Calls Try.prog 8 #[.string s, .int .i64 (k : Int), .int .u16 y] w fun e w' => e = .returned (.bool true) ∧ Grown w w' := by
  have hx : ¬ (k : Int) < 0 := by omega
  have hk1 : (k : Int) + 1 < s.size := by omega
  have hkk : (k : Int) < s.size := by omega
  have hk0 : (0 : Int) ≤ (k : Int) + 1 := by omega
  have hk2 : (k : Int) + 2 ≤ s.size := by omega
  have hk20 : (0 : Int) ≤ (k : Int) + 2 := by omega
  have hwr : IntKind.i64.wrap ((k : Int) + 2) = (k : Int) + 2 := by rw [IntKind.wrap_i64]; omega
  have kw : (wb y).size ≤ 2 := Nat.le_of_eq (wb_size y)
  go_enter Try.func8, Try.ntmps8
  go_wp2_with fail
  refine (lives _).mono ?_
  rintro e w1 ⟨rfl, q1⟩
  go_wp2_with fail
  go_cut [7] (fun v wx => v = .int .u16 (256 * (s[k].toNat : Int) + (s[k + 1].toNat : Int)) ∧ Qd w wx)
  case first =>
    go_quiet (fail)
    go_wp2_with fail
    go_meet
    exact ⟨val_int (old_word _ _), q1.drewN _⟩
  case rest =>
    obtain ⟨rfl, q2⟩ := hcut
    clear q1
    go_wp2_with fail
    go_cut [8] (fun v wx => v = .string (s.extract 0 k ++ wb y ++ s.extract (k + 2) s.size) ∧ Grown w wx)
    case first =>
      go_region_with (go_at_call 18; refine (word_any y _ hy0 hy1).mono ?_; rintro e w3 ⟨rfl, rfl⟩)
      all_goals go_wp2_with fail
      all_goals go_meet
      all_goals exact ⟨rfl, Grown.drew (Grown.alloc (gq (Grown.refl _) q2) _ _)⟩
    case rest =>
      obtain ⟨rfl, q3⟩ := hcut
      have tsz : (s.extract 0 k ++ wb y ++ s.extract (k + 2) s.size).size ≤ s.size := Nat.le_of_eq (t_size s k y hx3)
      have mf := fixes s k y (by simpa using h) (by simpa using hx2) hx3 hy0 hy1
      have wbd := wsum_bd 0 s.data.toList (by omega) (by omega)
      have hb0 := byte_bd s[k]
      have hb1 := byte_bd s[k + 1]
      have cbd := fix_bd (65535 - wsum 0 s.data.toList) (256 * (s[k].toNat : Int) + (s[k + 1].toNat : Int)) y (by omega) (by omega) (by omega) (by omega) hy0 hy1
      have e1 : (256 * (s[k].toNat : Int) + (s[k + 1].toNat : Int)) ≤ 65535 := by omega
      have e0 : 0 ≤ (256 * (s[k].toNat : Int) + (s[k + 1].toNat : Int)) := by omega
      generalize s.extract 0 k ++ wb y ++ s.extract (k + 2) s.size = t at tsz mf ⊢
      generalize 256 * (s[k].toNat : Int) + (s[k + 1].toNat : Int) = o at mf cbd e0 e1 ⊢
      have FX : ∀ u, Hid (Calls Try.prog 16 #[.int .u16 (65535 - wsum 0 s.data.toList), .int .u16 o, .int .u16 y] u fun e w' => e = .returned (.int .u16 (fixed (65535 - wsum 0 s.data.toList) o y)) ∧ w' = u) :=
        fun u => fix_any _ o y u (by omega) (by omega) e0 e1 hy0 hy1
      generalize fixed (65535 - wsum 0 s.data.toList) o y = c at mf cbd FX
      have kc : (wb c).size ≤ 2 := Nat.le_of_eq (wb_size c)
      have MF : Hid _ := mf
      have tw : Hid ((t ++ wb c).size ≤ 281474976710656) := by
        have : (t ++ wb c).size ≤ 281474976710656 := by rw [ByteArray.size_append]; omega
        exact this
      have hcl := count_le t.data.toList
      have hlt : t.data.toList.length = t.size := by simp
      clear mf hb0 hb1 hx3
      obtain ⟨z, hz⟩ : ∃ z : Int, z = (t.data.toList.count 0 : Nat) := ⟨_, rfl⟩
      have CT : ∀ w, Hid (Calls Try.prog 19 #[.string t, .string ⟨#[0]⟩] w fun e w' => e = .returned (.int .i64 z) ∧ w' = w) := fun w => by rw [hz]; exact count_zero t w
      by_cases hall : t.data.toList.count 0 = t.data.toList.length
      · have tz : (z == (t.size : Int)) = true := by rw [beq_iff_eq]; omega
        clear hall hcl hlt hz
        go_wp2_with fail
        refine (of_any s _ (by omega)).mono ?_
        rintro e w2 ⟨rfl, q4⟩
        go_wp2_with fail
        refine ((FX _).out).mono ?_
        rintro e w3 ⟨rfl, rfl⟩
        go_wp2_with fail
        refine ((CT _).out).mono ?_
        rintro e w4 ⟨rfl, rfl⟩
        go_wp2_with fail
        go_ret
        exact ⟨rfl, gq q3 q4⟩
      · have tz : (z == (t.size : Int)) = false := by rw [beq_eq_false_iff_ne]; omega
        have hr : (wsum 0 (t ++ wb c).data.toList == 65535) = true := by rw [beq_iff_eq]; exact MF.out hall
        have RT : ∀ u, Hid (Calls Try.prog 15 #[.string (t ++ wb c)] u fun e w' => e = .returned (.bool true) ∧ Qd u w') := fun u => by
          have := right_any (t ++ wb c) u tw.out
          rw [hr] at this; exact this
        clear hall hcl hlt hr hz
        go_wp2_with fail
        refine (of_any s _ (by omega)).mono ?_
        rintro e w2 ⟨rfl, q4⟩
        go_wp2_with fail
        refine ((FX _).out).mono ?_
        rintro e w3 ⟨rfl, rfl⟩
        go_wp2_with fail
        refine ((CT _).out).mono ?_
        rintro e w4 ⟨rfl, rfl⟩
        go_wp2_with fail
        refine (word_any c _ cbd.1 cbd.2).mono ?_
        rintro e w5 ⟨rfl, rfl⟩
        go_wp2_with fail
        refine ((RT _).out).mono ?_
        rintro e w6 ⟨rfl, q6⟩
        go_wp2_with fail
        go_ret
        exact ⟨rfl, gq (Grown.alloc (gq q3 q4) _ _) q6⟩
end Go.Proofs.Ytendklfngpoljaa.sumf
