/- For every packet p and every number most the law FragSplits returns true: frag.Split answers what the document says; there are no conditions. -/
import Derived.Test.YtlbpapngcgnepaaFragSplitOf
import Derived.Test.YtlbpapngcgnepaaFragEq
import Derived.Test.YtlbpapngcgnepaaArgsIp
import Derived.Test.YtlbpapngcgnepaaRows
import Derived.WalkKit
import Derived.ProofKit
import Derived.OpenShut
import Derived.ShutString
import Derived.ChangeOld
import Derived.Below
import Derived.SizedLaws
namespace Go.Proofs.Ytlbpapngcgnepaa.fragSplits
open Go.ChangeShapes Go.WideShapes Go.ChangeAt Go.RowKit
open Go.ChangeMaps (open_string shut_string)
set_option linter.unusedVariables false

theorem own : ownKnob Try.prog.godebug = none := by kernel_rfl
theorem laidOut : laidOutB Try.prog = true := by kernel_rfl

open Go.Proofs.Ytlbpapngcgnepaa Go.Proofs.Ytlbpapngcgnepaa.ipb Go.Proofs.Ytlbpapngcgnepaa.boxes Go.Proofs.Ytlbpapngcgnepaa.argsi Go.Proofs.Ytlbpapngcgnepaa.ipr Go.Proofs.Ytlbpapngcgnepaa.frb
open Go.Proofs.Ytlbpapngcgnepaa.rws (Own)
set_option maxHeartbeats 2000000 in
theorem walk (p : Pk) (m : Int) (h : 20 + p.o.size + p.d.size ≤ 9223372036854775807) (ha : p.Adr) (w : World) :
    Calls Try.prog 3 #[.agg p.cells, .int .i64 m] w fun e w' => e = .returned (.bool true) ∧ Below w.heap.size w w' := by
  have CS := fun u => frs.split_any p m u h ha
  have CR := fun u => frso.split_of p m u h ha
  generalize spe p m = er at CS CR
  generalize spl p m = L at CS CR
  have F0 := Blk.new w p.cells 24
  have b0 := (Below.refl w.heap.size w).alloc (Nat.le_refl _) (.cells p.cells 24)
  go_enter Try.func3, Try.ntmps3
  go_wp2_with (refine blk_load _ rfl 24 _ rfl w.heap.size rfl _ _ F0 _ Try.underlying24 rfl 11 pk_info rfl ?_)
  refine (CS _).mono ?_
  rintro r w1 ⟨v1, rfl, O1, hb1⟩
  clear CS
  have F1 := F0.below hb1 F0.lt
  have b1 := b0.trans (hb1.mono b0.size)
  go_wp2_with (refine blk_load _ rfl 24 _ rfl w.heap.size rfl _ _ F1 _ Try.underlying24 rfl 11 pk_info rfl ?_)
  refine (CR _).mono ?_
  rintro r w2 ⟨v2, rfl, O2, hb2⟩
  have b2 := b1.trans (hb2.mono b1.size)
  have O3 := O1.kept hb2
  clear CR F0 F1
  go_wp2_with fail
  refine (freq.equal_same _ _ _ v1 v2 L O3 O2).mono ?_
  rintro r w3 ⟨rfl, hb3⟩
  have b3 := b2.trans (hb3.mono b2.size)
  go_wp2_with fail
  go_ret
  exact ⟨rfl, b3⟩
set_option maxRecDepth 100000 in
theorem lifted (os : Os) (started : os.Started) (H : Type) (enc : TypeId × Value → H) :
    ReturnsInHanded {} Try.checked os 3 .any (Rows.fragSplitsSpec.pre6 enc Try.prog Try.f3 Rows.fragSplitsRow.domain false) (Rows.fragSplitsSpec.post enc Try.prog Try.f3 false true false false) := by
  refine returnsInHanded_of_change_sized (C := Try.checked) own started (by kernel_rfl) Try.func3
    (ChangeSpec.witness6 (enc := enc) (C := Try.checked) false ⟨#[], #[.agg #[.int .i64 0, .int .i64 0, .bool false, .bool false, .int .i64 0, .int .i64 0, .int .i64 0, .int .u32 0, .int .u32 0, .string ByteArray.empty, .string ByteArray.empty], .int .i64 0], []⟩ 8 (by kernel_rfl) (by kernel_rfl) (by kernel_rfl) (by kernel_rfl)) ?_
  intro W base args ds gs before hval0 hW hcnd hsz0 _
  have hval : ∀ (j : Nat) t v, Try.f3.params[j]? = some t → args[j]? = some v → Value.okWide Try.prog W .any base t v := hval0
  have hsz : (DataW.weightsEach Try.prog (Try.f3.params.toList ++ Rows.fragSplitsSpec.plain.varTypes Try.prog) (ds ++ gs)).all (· ≤ reachBytes) = true := hsz0
  have hW' := hW
  obtain ⟨p, q, hA0, hV, rfl, hfz, hnd⟩ := hW
  have hA : DataW.TrodAll enc Try.prog W 0 (fun _ => true) true Try.f3.params.toList args.toList ds p := hA0
  rw [Try.params3] at hA hval hsz
  obtain ⟨v0, vs0, d0, ds0, p0, q0, hargs, rfl, rfl, h0, r0⟩ := trodAll_cons hA
  obtain ⟨v1, vs1, d1, ds1, p1, q1, rfl, rfl, rfl, h1, r1⟩ := trodAll_cons r0
  obtain ⟨rfl, rfl, rfl⟩ := trodAll_nil r1
  obtain rfl : args = #[v0, v1] := by cases args; simp_all
  obtain ⟨rfl, rfl⟩ := trodVars_none hV
  have k0 := h0
  have lt0 : ∀ x ∈ p0, x.block < W.heap.size := by obtain ⟨m, hm⟩ := k0; exact DataW.trod_lt m _ _ _ hm
  have k1 := h1
  have lt1 : ∀ x ∈ p1, x.block < W.heap.size := by obtain ⟨m, hm⟩ := k1; exact DataW.trod_lt m _ _ _ hm
  obtain ⟨P, rfl, hadr, hws⟩ := open_packet (hval 0 24 v0 rfl rfl) h0
  have wsz := hws reachBytes (weighed hsz (j := 0) (t := 24) rfl rfl)
  obtain ⟨a1, rfl, rfl, rfl, w1⟩ := open_int Try.underlying3 (hval 1 3 v1 rfl rfl) h1
  simp only [reachBytes] at wsz
  clear hA0 hval0 hsz0 hsz
  refine (walk P a1 (by omega) hadr W).mono fun e W' ⟨he, bel⟩ => ?_
  subst he
  exact ⟨_, rfl, _, _, _, [], _, [], hW', trodAll_mk1 (shut_bool Try.underlying4 _), (trodAll_cons_mk (Below.trod laidOut (by kernel_rfl) (of_decide_eq_true (by kernel_rfl)) k0 bel lt0) (trodAll_cons_mk (Below.trod laidOut (by kernel_rfl) (of_decide_eq_true (by kernel_rfl)) k1 bel lt1) trodAll_mk0)), rfl, bel.frame _, fun h => by cases h⟩

theorem over : Rows.fragSplitsRow.holds Try.pinned (OpenSpec.ofChange Rows.fragSplitsSpec) :=
  OpenClaim.holds_of_wide 3 Try.f3 rfl rfl rfl rfl rfl rfl rfl ⟨rfl, rfl, rfl, rfl, rfl⟩ rfl rfl rfl rfl rfl (by kernel_rfl) Try.func3 (by kernel_rfl)
    (of_decide_eq_true (by kernel_rfl)) (by unfold Func.isWrapper; first | (rw [if_pos (by decide +kernel)]; kernel_rfl) | (rw [if_neg (by decide +kernel)]; exact ⟨rfl, rfl⟩))
    (fun os started H enc _ => lifted os started H enc)

theorem proved : Rows.FragSplitsSaid :=
  over
end Go.Proofs.Ytlbpapngcgnepaa.fragSplits
