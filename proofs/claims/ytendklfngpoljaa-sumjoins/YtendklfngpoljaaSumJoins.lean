/- For every n, a and b the law SumJoins returns true: the sum of the first of two texts of even length is where the second's begins, and their order is no matter; there are no conditions. -/
import Derived.Test.YtendklfngpoljaaSumKeep
import Derived.Test.YtendklfngpoljaaRows
import Derived.WalkKit
import Derived.ProofKit
import Derived.OpenShut
import Derived.ShutString
import Derived.SizedLaws
namespace Go.Proofs.Ytendklfngpoljaa.sumJoins
open Go.ChangeShapes Go.WideShapes Go.ChangeAt Go.RowKit
open Go.ChangeMaps (open_string shut_string)
set_option linter.unusedVariables false

theorem own : ownKnob Try.prog.godebug = none := by kernel_rfl

open Go.Proofs.Ytendklfngpoljaa.SM Go.Proofs.Ytendklfngpoljaa.sumw Go.Proofs.Ytendklfngpoljaa.sumk
theorem Qd.grown {w w' : World} (h : Qd w w') : Grown w w' := by
  obtain ⟨m, rfl⟩ := h; exact Grown.refl _
theorem app_data (a b : ByteArray) : (a ++ b).data.toList = a.data.toList ++ b.data.toList := by simp
theorem joins (n : Int) (a b : ByteArray) (h0 : 0 ≤ n) (h1 : n ≤ 65535) (ha : a.size % 2 = 0) :
    wsum (wsum n a.data.toList) b.data.toList = wsum n (a ++ b).data.toList := by
  have hb := wsum_bd n a.data.toList h0 h1
  rw [app_data, wsum_norm _ _ hb.1 hb.2, wsum_norm n _ h0 h1, wsum_norm n _ h0 h1, pw_append _ _ (by simpa using ha),
    norm_add _ _ (by have := pw_nonneg a.data.toList; omega) (pw_nonneg _), Int.add_assoc]
theorem swaps (n : Int) (a b : ByteArray) (h0 : 0 ≤ n) (h1 : n ≤ 65535) (ha : a.size % 2 = 0) (hb : b.size % 2 = 0) :
    wsum n (a ++ b).data.toList = wsum n (b ++ a).data.toList := by
  rw [app_data, app_data, wsum_norm n _ h0 h1, wsum_norm n _ h0 h1, pw_append _ _ (by simpa using ha), pw_append _ _ (by simpa using hb), Int.add_comm (pw a.data.toList)]
theorem walk (a0 : Int) (a1 : ByteArray) (a2 : ByteArray) (w0 : (Lit.int .u16 a0).wf = true) (w1 : a1.size ≤ 140737488351232) (w2 : a2.size ≤ 140737488351232) (w : World) :
    Calls Try.prog 6 #[.int .u16 a0, .string a1, .string a2] w fun e w' => e = .returned (.bool true) ∧ Grown w w' := by
  have hn : 0 ≤ a0 ∧ a0 ≤ 65535 := by simpa [Lit.wf, IntKind.min, IntKind.max, IntKind.signed, IntKind.bits] using w0
  clear w0
  obtain ⟨hn0, hn1⟩ := hn
  by_cases ha : (a1.size : Int) % 2 = 1
  · have hb : ((a1.size : Int) % 2 == 1) = true := by simpa using ha
    clear ha
    go_enter Try.func6, Try.ntmps6
    go_wp2_with fail
    refine (lives _).mono ?_
    rintro e w1 ⟨rfl, q1⟩
    go_wp2_with fail
    refine (lives _).mono ?_
    rintro e w2 ⟨rfl, q2⟩
    go_wp2_with fail
    go_ret
    exact ⟨rfl, Qd.grown (q1.trans q2)⟩
  · have hab : ((a1.size : Int) % 2 == 1) = false := by simpa using ha
    by_cases hb : (a2.size : Int) % 2 = 1
    · have hbb : ((a2.size : Int) % 2 == 1) = true := by simpa using hb
      clear ha hb
      go_enter Try.func6, Try.ntmps6
      go_wp2_with fail
      refine (lives _).mono ?_
      rintro e w1 ⟨rfl, q1⟩
      go_wp2_with fail
      refine (lives _).mono ?_
      rintro e w2 ⟨rfl, q2⟩
      go_wp2_with fail
      go_ret
      exact ⟨rfl, Qd.grown (q1.trans q2)⟩
    · have hbb : ((a2.size : Int) % 2 == 1) = false := by simpa using hb
      have ea' : a1.size % 2 = 0 := by omega
      have eb' : a2.size % 2 = 0 := by omega
      have j1 := joins a0 a1 a2 hn0 hn1 ea'
      have j2 := swaps a0 a1 a2 hn0 hn1 ea' eb'
      have J1 : Hid _ := j1
      have J2 : Hid _ := j2
      have wb1 := wsum_bd a0 a1.data.toList hn0 hn1
      have s1 : (a1 ++ a2).size ≤ 281474976710656 := by rw [ByteArray.size_append]; omega
      have s2 : (a2 ++ a1).size ≤ 281474976710656 := by rw [ByteArray.size_append]; omega
      have S1 : Hid _ := s1
      have S2 : Hid _ := s2
      clear ha hb j1 j2 ea' eb' s1 s2
      go_enter Try.func6, Try.ntmps6
      go_wp2_with fail
      refine (lives _).mono ?_
      rintro e w1 ⟨rfl, q1⟩
      go_wp2_with fail
      refine (add_any a0 a1 _ hn0 hn1 (by omega)).mono ?_
      rintro e w2 ⟨rfl, q2⟩
      go_wp2_with fail
      refine (add_any _ a2 _ wb1.1 wb1.2 (by omega)).mono ?_
      rintro e w3 ⟨rfl, q3⟩
      go_wp2_with fail
      refine (add_any a0 (a1 ++ a2) _ hn0 hn1 S1.out).mono ?_
      rintro e w4 ⟨rfl, q4⟩
      rw [J1.out]
      go_wp2_with fail
      refine (add_any a0 (a1 ++ a2) _ hn0 hn1 S1.out).mono ?_
      rintro e w5 ⟨rfl, q5⟩
      go_wp2_with fail
      refine (add_any a0 (a2 ++ a1) _ hn0 hn1 S2.out).mono ?_
      rintro e w6 ⟨rfl, q6⟩
      rw [← J2.out]
      go_wp2_with fail
      go_ret
      exact ⟨rfl, Qd.grown (((((q1.trans q2).trans q3).trans q4).trans q5).trans q6)⟩
set_option maxRecDepth 100000 in
theorem lifted (os : Os) (started : os.Started) (H : Type) (enc : TypeId × Value → H) :
    ReturnsInHanded {} Try.checked os 6 .any (Rows.sumJoinsSpec.pre6 enc Try.prog Try.f6 Rows.sumJoinsRow.domain false) (Rows.sumJoinsSpec.post enc Try.prog Try.f6 false true false false) := by
  refine returnsInHanded_of_change_sized (C := Try.checked) own started (by kernel_rfl) Try.func6
    (ChangeSpec.witness6 (enc := enc) (C := Try.checked) false ⟨#[], #[.int .u16 0, .string ByteArray.empty, .string ByteArray.empty], []⟩ 8 (by kernel_rfl) (by kernel_rfl) (by kernel_rfl) (by kernel_rfl)) ?_
  intro W base args ds gs before hval0 hW hcnd hsz0 _
  have hval : ∀ (j : Nat) t v, Try.f6.params[j]? = some t → args[j]? = some v → Value.okWide Try.prog W .any base t v := hval0
  have hsz : (DataW.weightsEach Try.prog (Try.f6.params.toList ++ Rows.sumJoinsSpec.plain.varTypes Try.prog) (ds ++ gs)).all (· ≤ reachBytes) = true := hsz0
  have hW' := hW
  obtain ⟨p, q, hA0, hV, rfl, hfz, hnd⟩ := hW
  have hA : DataW.TrodAll enc Try.prog W 0 (fun _ => true) true Try.f6.params.toList args.toList ds p := hA0
  rw [Try.params6] at hA hval hsz
  obtain ⟨v0, vs0, d0, ds0, p0, q0, hargs, rfl, rfl, h0, r0⟩ := trodAll_cons hA
  obtain ⟨v1, vs1, d1, ds1, p1, q1, rfl, rfl, rfl, h1, r1⟩ := trodAll_cons r0
  obtain ⟨v2, vs2, d2, ds2, p2, q2, rfl, rfl, rfl, h2, r2⟩ := trodAll_cons r1
  obtain ⟨rfl, rfl, rfl⟩ := trodAll_nil r2
  obtain rfl : args = #[v0, v1, v2] := by cases args; simp_all
  obtain ⟨rfl, rfl⟩ := trodVars_none hV
  obtain ⟨a0, rfl, rfl, rfl, w0⟩ := open_int Try.underlying27 (hval 0 27 v0 rfl rfl) h0
  obtain ⟨a1, rfl, rfl, rfl, w1⟩ := open_string Try.underlying9 (hval 1 9 v1 rfl rfl) h1
  obtain ⟨a2, rfl, rfl, rfl, w2⟩ := open_string Try.underlying9 (hval 2 9 v2 rfl rfl) h2
  have sz1 : a1.size ≤ 140737488351232 := by
    have hx := sized_string hsz (j := 1) (t := 9) rfl rfl
    simpa [reachBytes] using hx
  have sz2 : a2.size ≤ 140737488351232 := by
    have hx := sized_string hsz (j := 2) (t := 9) rfl rfl
    simpa [reachBytes] using hx
  clear hA0 hval0 hsz0 hsz
  simp only [List.append_nil] at hW'
  refine (walk a0 a1 a2 w0 sz1 sz2 W).mono fun e W' ⟨he, hg⟩ => ?_
  subst he
  exact ⟨_, rfl, post_of_same (pa := []) (pv := []) hW' (fun _ _ _ => (trodAll_cons_mk (shut_bool Try.underlying4 _) trodAll_mk0)) (fun sp _ => (trodAll_cons_mk (shut_int Try.underlying27 w0) (trodAll_cons_mk (shut_string Try.underlying9 w1) (trodAll_cons_mk (shut_string Try.underlying9 w2) trodAll_mk0)))) (fun _ _ => rfl) rfl
    (hg.frame _) hg.2.1 (ok_one (by kernel_rfl) rfl (okWide_bool_mk Try.underlying4 _))⟩

theorem over : Rows.sumJoinsRow.holds Try.pinned (OpenSpec.ofChange Rows.sumJoinsSpec) :=
  OpenClaim.holds_of_wide 6 Try.f6 rfl rfl rfl rfl rfl rfl rfl ⟨rfl, rfl, rfl, rfl, rfl⟩ rfl rfl rfl rfl rfl (by kernel_rfl) Try.func6 (by kernel_rfl)
    (of_decide_eq_true (by kernel_rfl)) (by unfold Func.isWrapper; first | (rw [if_pos (by decide +kernel)]; kernel_rfl) | (rw [if_neg (by decide +kernel)]; exact ⟨rfl, rfl⟩))
    (fun os started H enc _ => lifted os started H enc)

theorem proved : Rows.SumJoinsSaid :=
  over
end Go.Proofs.Ytendklfngpoljaa.sumJoins
