/- For every s and other the law SumRests returns true: bytes of an even number with their check behind are right, and with another word they are not, but for the two that are alike end-around; there are no conditions. -/
import Derived.Test.YtendklfngpoljaaSumKeep
import Derived.Test.YtendklfngpoljaaSumCount
import Derived.Test.YtendklfngpoljaaRows
import Derived.WalkKit
import Derived.ProofKit
import Derived.OpenShut
import Derived.ShutString
import Derived.SizedLaws
namespace Go.Proofs.Ytendklfngpoljaa.sumRests
open Go.ChangeShapes Go.WideShapes Go.ChangeAt Go.RowKit
open Go.ChangeMaps (open_string shut_string)
set_option linter.unusedVariables false

theorem own : ownKnob Try.prog.godebug = none := by kernel_rfl

open Go.Proofs.Ytendklfngpoljaa.SM Go.Proofs.Ytendklfngpoljaa.sumw Go.Proofs.Ytendklfngpoljaa.sumk Go.Proofs.Ytendklfngpoljaa.sumc
theorem gq {a b c : World} (h : Grown a b) (h' : Qd b c) : Grown a c := by
  obtain ⟨m, rfl⟩ := h'; exact h
theorem app_data (a b : ByteArray) : (a ++ b).data.toList = a.data.toList ++ b.data.toList := by simp
/-- the sum with a word behind -/
theorem sum_word (s : ByteArray) (n : Int) (hs : s.size % 2 = 0) (h0 : 0 ≤ n) (h1 : n ≤ 65535) : wsum 0 (s ++ wb n).data.toList = norm (pw s.data.toList + n) := by
  rw [wsum_norm _ _ (by omega) (by omega), app_data, pw_append _ _ (by simpa using hs), pw_wb n h0 h1, Int.zero_add]
theorem sum_plain (s : ByteArray) : wsum 0 s.data.toList = norm (pw s.data.toList) := by
  rw [wsum_norm _ _ (by omega) (by omega), Int.zero_add]
theorem wordSize (s : ByteArray) (n : Int) (hs : s.size ≤ 140737488351232) : (s ++ wb n).size ≤ 281474976710656 := by
  rw [ByteArray.size_append, wb_size]; omega
theorem walk (a0 : ByteArray) (a1 : Int) (w0 : a0.size ≤ 140737488351232) (w1 : (Lit.int .u16 a1).wf = true) (w : World) :
    Calls Try.prog 5 #[.string a0, .int .u16 a1] w fun e w' => e = .returned (.bool true) ∧ Grown w w' := by
  have ho : 0 ≤ a1 ∧ a1 ≤ 65535 := by simpa [Lit.wf, IntKind.min, IntKind.max, IntKind.signed, IntKind.bits] using w1
  clear w1
  obtain ⟨ho0, ho1⟩ := ho
  have W2 : ∀ n : Int, Hid ((a0 ++ wb n).size ≤ 281474976710656) := fun n => wordSize a0 n w0
  have hs : a0.size ≤ 281474976710656 := by omega
  by_cases hodd : (a0.size : Int) % 2 = 1
  · have hb : ((a0.size : Int) % 2 == 1) = true := by simpa using hodd
    clear hodd W2
    go_enter Try.func5, Try.ntmps5
    go_wp2_with fail
    refine (lives _).mono ?_
    rintro e w1 ⟨rfl, q1⟩
    go_wp2_with fail
    refine (lives _).mono ?_
    rintro e w2 ⟨rfl, q2⟩
    go_wp2_with fail
    go_ret
    exact ⟨rfl, gq (gq (Grown.refl _) q1) q2⟩
  · have hb : ((a0.size : Int) % 2 == 1) = false := by simpa using hodd
    have hev : a0.size % 2 = 0 := by omega
    have nb := norm_bd (pw a0.data.toList)
    have hl : a0.data.toList.length = a0.size := by simp
    -- the check, and the sums behind
    obtain ⟨c, hc⟩ : ∃ c, c = 65535 - wsum 0 a0.data.toList := ⟨_, rfl⟩
    obtain ⟨f, hf⟩ : ∃ f, f = (wsum 0 (a0 ++ wb a1).data.toList == 65535) := ⟨_, rfl⟩
    obtain ⟨g, hg⟩ : ∃ g, g = (wsum 0 (a0 ++ wb c).data.toList == 65535) := ⟨_, rfl⟩
    obtain ⟨z, hz⟩ : ∃ z : Int, z = (a0.data.toList.count 0 : Nat) := ⟨_, rfl⟩
    have OF : ∀ w, Hid (Calls Try.prog 13 #[.string a0] w fun e w' => e = .returned (.int .u16 c) ∧ Qd w w') := fun w => by rw [hc]; exact of_any a0 w hs
    have RF : ∀ w, Hid (Calls Try.prog 15 #[.string (a0 ++ wb a1)] w fun e w' => e = .returned (.bool f) ∧ Qd w w') := fun w => by rw [hf]; exact right_any _ w (W2 a1).out
    have RG : ∀ w, Hid (Calls Try.prog 15 #[.string (a0 ++ wb c)] w fun e w' => e = .returned (.bool g) ∧ Qd w w') := fun w => by rw [hg]; exact right_any _ w (W2 c).out
    have CT : ∀ w, Hid (Calls Try.prog 19 #[.string a0, .string ⟨#[0]⟩] w fun e w' => e = .returned (.int .i64 z) ∧ w' = w) := fun w => by rw [hz]; exact count_zero a0 w
    rw [sum_plain] at hc
    rw [sum_word a0 a1 hev ho0 ho1] at hf
    have hc0 : 0 ≤ c := by omega
    have hc1 : c ≤ 65535 := by omega
    rw [sum_word a0 c hev hc0 hc1] at hg
    have k1 : (wb a1).size ≤ 2 := Nat.le_of_eq (wb_size a1)
    have k2 : (wb c).size ≤ 2 := Nat.le_of_eq (wb_size c)
    by_cases hall : a0.data.toList.count 0 = a0.data.toList.length
    · have hp := pw_zero _ hall
      have tz : (z == (a0.size : Int)) = true := by rw [beq_iff_eq]; omega
      have tf : (f == (a1 == 65535)) = true := by
        rw [hf, hp, Int.zero_add, norm_id a1 ho0 ho1]; simp
      have t3 : (c == 65535) = true := by rw [hc, hp]; decide
      have hcs : ((a1 == c) = true ∧ (a1 == 0) = false ∧ (a1 == 65535) = true ∧ (c == 0) = false) ∨
          ((a1 == c) = false ∧ (a1 == 0) = true ∧ (a1 == 65535) = false ∧ (c == 0) = false) ∨
          ((a1 == c) = false ∧ (a1 == 0) = false ∧ (a1 == 65535) = false ∧ (c == 0) = false) := by
        simp only [beq_iff_eq, beq_eq_false_iff_ne] at t3 ⊢; omega
      clear hc hf hg hz hp hall hl nb hev hodd
      rcases hcs with ⟨t1, t2, t4, t5⟩ | ⟨t1, t2, t4, t5⟩ | ⟨t1, t2, t4, t5⟩
      all_goals
        go_enter Try.func5, Try.ntmps5
        go_wp2_with fail
        refine (lives _).mono ?_
        rintro e w1 ⟨rfl, q1⟩
        go_wp2_with fail
        refine ((OF _).out).mono ?_
        rintro e w2 ⟨rfl, q2⟩
        go_wp2_with fail
        refine (word_any a1 _ ho0 ho1).mono ?_
        rintro e w3 ⟨rfl, rfl⟩
        go_wp2_with fail
        refine ((RF _).out).mono ?_
        rintro e w4 ⟨rfl, q4⟩
        go_wp2_with fail
        refine ((CT _).out).mono ?_
        rintro e w5 ⟨rfl, rfl⟩
        go_wp2_with fail
        go_ret
        refine ⟨?_, gq (Grown.alloc (gq (gq (Grown.refl _) q1) q2) _ _) q4⟩
        first | rfl | simp_all
    · have hp := pw_pos _ hall
      have hcl := count_le a0.data.toList
      have tz : (z == (a0.size : Int)) = false := by rw [beq_eq_false_iff_ne]; omega
      have tg : g = true := by
        rw [hg, hc, beq_iff_eq]; unfold norm at *; rw [if_neg (by omega)]; rw [if_neg (by omega)]; omega
      have hff : f = true ↔ (a1 = c ∨ (a1 = 65535 ∧ c = 0)) := by
        rw [hf, hc, beq_iff_eq]; unfold norm; rw [if_neg (by omega)]; rw [if_neg (by omega)]; omega
      have hc2 : c ≠ 65535 := by
        rw [hc]; unfold norm; rw [if_neg (by omega)]; omega
      have t3 : (c == 65535) = false := by rw [beq_eq_false_iff_ne]; exact hc2
      have hcs : (f = true ∧ (a1 == c) = true) ∨
          (f = false ∧ (a1 == c) = false ∧ (a1 == 0) = true ∧ (a1 == 65535) = false) ∨
          (f = true ∧ (a1 == c) = false ∧ (a1 == 0) = false ∧ (a1 == 65535) = true ∧ (c == 0) = true) ∨
          (f = false ∧ (a1 == c) = false ∧ (a1 == 0) = false ∧ (a1 == 65535) = true ∧ (c == 0) = false) ∨
          (f = false ∧ (a1 == c) = false ∧ (a1 == 0) = false ∧ (a1 == 65535) = false) := by
        simp only [beq_iff_eq, ← Bool.not_eq_true, hff]; omega
      subst tg
      clear hc hf hg hz hp hall hl nb hev hodd hcl hff hc2
      rcases hcs with ⟨rfl, t1⟩ | ⟨rfl, t1, t2, t4⟩ | ⟨rfl, t1, t2, t4, t5⟩ | ⟨rfl, t1, t2, t4, t5⟩ | ⟨rfl, t1, t2, t4⟩
      all_goals
        go_enter Try.func5, Try.ntmps5
        go_wp2_with fail
        refine (lives _).mono ?_
        rintro e w1 ⟨rfl, q1⟩
        go_wp2_with fail
        refine ((OF _).out).mono ?_
        rintro e w2 ⟨rfl, q2⟩
        go_wp2_with fail
        refine (word_any a1 _ ho0 ho1).mono ?_
        rintro e w3 ⟨rfl, rfl⟩
        go_wp2_with fail
        refine ((RF _).out).mono ?_
        rintro e w4 ⟨rfl, q4⟩
        go_wp2_with fail
        refine ((CT _).out).mono ?_
        rintro e w5 ⟨rfl, rfl⟩
        go_wp2_with fail
        refine (word_any c _ hc0 hc1).mono ?_
        rintro e w6 ⟨rfl, rfl⟩
        go_wp2_with fail
        refine ((RG _).out).mono ?_
        rintro e w7 ⟨rfl, q7⟩
        go_wp2_with fail
        go_ret
        refine ⟨?_, gq (Grown.alloc (gq (Grown.alloc (gq (gq (Grown.refl _) q1) q2) _ _) q4) _ _) q7⟩
        first | rfl | simp_all
set_option maxRecDepth 100000 in
theorem lifted (os : Os) (started : os.Started) (H : Type) (enc : TypeId × Value → H) :
    ReturnsInHanded {} Try.checked os 5 .any (Rows.sumRestsSpec.pre6 enc Try.prog Try.f5 Rows.sumRestsRow.domain false) (Rows.sumRestsSpec.post enc Try.prog Try.f5 false true false false) := by
  refine returnsInHanded_of_change_sized (C := Try.checked) own started (by kernel_rfl) Try.func5
    (ChangeSpec.witness6 (enc := enc) (C := Try.checked) false ⟨#[], #[.string ByteArray.empty, .int .u16 0], []⟩ 8 (by kernel_rfl) (by kernel_rfl) (by kernel_rfl) (by kernel_rfl)) ?_
  intro W base args ds gs before hval0 hW hcnd hsz0 _
  have hval : ∀ (j : Nat) t v, Try.f5.params[j]? = some t → args[j]? = some v → Value.okWide Try.prog W .any base t v := hval0
  have hsz : (DataW.weightsEach Try.prog (Try.f5.params.toList ++ Rows.sumRestsSpec.plain.varTypes Try.prog) (ds ++ gs)).all (· ≤ reachBytes) = true := hsz0
  have hW' := hW
  obtain ⟨p, q, hA0, hV, rfl, hfz, hnd⟩ := hW
  have hA : DataW.TrodAll enc Try.prog W 0 (fun _ => true) true Try.f5.params.toList args.toList ds p := hA0
  rw [Try.params5] at hA hval hsz
  obtain ⟨v0, vs0, d0, ds0, p0, q0, hargs, rfl, rfl, h0, r0⟩ := trodAll_cons hA
  obtain ⟨v1, vs1, d1, ds1, p1, q1, rfl, rfl, rfl, h1, r1⟩ := trodAll_cons r0
  obtain ⟨rfl, rfl, rfl⟩ := trodAll_nil r1
  obtain rfl : args = #[v0, v1] := by cases args; simp_all
  obtain ⟨rfl, rfl⟩ := trodVars_none hV
  obtain ⟨a0, rfl, rfl, rfl, w0⟩ := open_string Try.underlying9 (hval 0 9 v0 rfl rfl) h0
  obtain ⟨a1, rfl, rfl, rfl, w1⟩ := open_int Try.underlying27 (hval 1 27 v1 rfl rfl) h1
  have sz0 : a0.size ≤ 140737488351232 := by
    have hx := sized_string hsz (j := 0) (t := 9) rfl rfl
    simpa [reachBytes] using hx
  clear hA0 hval0 hsz0 hsz
  simp only [List.append_nil] at hW'
  refine (walk a0 a1 sz0 w1 W).mono fun e W' ⟨he, hg⟩ => ?_
  subst he
  exact ⟨_, rfl, post_of_same (pa := []) (pv := []) hW' (fun _ _ _ => (trodAll_cons_mk (shut_bool Try.underlying4 _) trodAll_mk0)) (fun sp _ => (trodAll_cons_mk (shut_string Try.underlying9 w0) (trodAll_cons_mk (shut_int Try.underlying27 w1) trodAll_mk0))) (fun _ _ => rfl) rfl
    (hg.frame _) hg.2.1 (ok_one (by kernel_rfl) rfl (okWide_bool_mk Try.underlying4 _))⟩

theorem over : Rows.sumRestsRow.holds Try.pinned (OpenSpec.ofChange Rows.sumRestsSpec) :=
  OpenClaim.holds_of_wide 5 Try.f5 rfl rfl rfl rfl rfl rfl rfl ⟨rfl, rfl, rfl, rfl, rfl⟩ rfl rfl rfl rfl rfl (by kernel_rfl) Try.func5 (by kernel_rfl)
    (of_decide_eq_true (by kernel_rfl)) (by unfold Func.isWrapper; first | (rw [if_pos (by decide +kernel)]; kernel_rfl) | (rw [if_neg (by decide +kernel)]; exact ⟨rfl, rfl⟩))
    (fun os started H enc _ => lifted os started H enc)

theorem proved : Rows.SumRestsSaid :=
  over
end Go.Proofs.Ytendklfngpoljaa.sumRests
