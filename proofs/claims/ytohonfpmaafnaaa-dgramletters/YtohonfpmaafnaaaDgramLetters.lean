/- For every letter l, addresses, text s and numbers the law DgramLetters returns true: dgram.Write, Read and Under answer what the document says; there are no conditions. -/
import Derived.Test.YtohonfpmaafnaaaDgRef5
import Derived.Test.YtohonfpmaafnaaaArgsDg
import Derived.Test.YtohonfpmaafnaaaRows
import Derived.WalkKit
import Derived.ProofKit
import Derived.OpenShut
import Derived.ShutString
import Derived.ChangeOld
import Derived.Below
import Derived.SizedLaws
namespace Go.Proofs.Ytohonfpmaafnaaa.dgramLetters
open Go.ChangeShapes Go.WideShapes Go.ChangeAt Go.RowKit
open Go.ChangeMaps (open_string shut_string)
set_option linter.unusedVariables false

theorem own : ownKnob Try.prog.godebug = none := by kernel_rfl
theorem laidOut : laidOutB Try.prog = true := by kernel_rfl

open Go.Proofs.Ytohonfpmaafnaaa Go.Proofs.Ytohonfpmaafnaaa.boxes Go.Proofs.Ytohonfpmaafnaaa.argsd Go.Proofs.Ytohonfpmaafnaaa.dgb Go.Proofs.Ytohonfpmaafnaaa.dgi Go.Proofs.Ytohonfpmaafnaaa.dgw
set_option maxHeartbeats 2000000 in
theorem walk (p : Lt) (f t : Int) (s : ByteArray) (pr sz : Int) (h : p.d.size ≤ 281474976710656) (hf : Ad f) (ht : Ad t) (hs : s.size ≤ 281474976710656) (w : World) :
    Calls Try.prog 3 #[.agg p.cells, .int .u32 f, .int .u32 t, .string s, .int .i64 pr, .int .i64 sz] w fun e w' => e = .returned (.bool true) ∧ Below w.heap.size w w' := by
  have CW := fun u => write_any p f t u (by omega) hf ht
  have CF := fun u => dgf.letterText_any p f t u h hf ht
  have CR := fun u => dgr.read_any s f t u hs hf ht
  have CT := fun u => dgf.textLetter_any s f t u hs hf ht
  have CU := fun u => Under_any f t pr sz u hf ht
  have CV := fun u => dgf.underText_any f t pr sz u hf ht
  generalize (⟨(und f t pr sz).toArray⟩ : ByteArray) = U at CU CV
  generalize p.out f t = o at CW CF
  generalize p.err = e at CW CF
  generalize rl s f t = R at CR CT
  generalize rle s f t = g at CR CT
  have F0 : Blk (w.alloc (.cells p.cells 23)) w.heap.size p.cells 23 := Blk.new _ _ _
  have b0 := (Below.refl w.heap.size w).alloc (Nat.le_refl _) (.cells p.cells 23)
  go_enter Try.func3, Try.ntmps3
  go_wp2_with (refine blk_load _ rfl 23 _ rfl w.heap.size rfl _ _ F0 _ Try.underlying23 rfl 3 lt_info rfl ?_)
  refine (CW _).mono ?_
  rintro r w1 ⟨rfl, hb1⟩
  clear CW
  have F1 := F0.below hb1 F0.lt
  have b1 := b0.trans (hb1.mono b0.size)
  go_wp2_with (refine blk_load _ rfl 23 _ rfl w.heap.size rfl _ _ F1 _ Try.underlying23 rfl 3 lt_info rfl ?_)
  refine (CF _).mono ?_
  rintro r w2 ⟨rfl, hb2⟩
  clear CF F0 F1
  have b2 := b1.trans (hb2.mono b1.size)
  go_wp2_with fail
  refine (CR _).mono ?_
  rintro r w3 ⟨rfl, hb3⟩
  clear CR
  have b3 := b2.trans (hb3.mono b2.size)
  clear hb1 hb2 hb3 b0 b1 b2
  go_wp2_with fail
  refine (CT _).mono ?_
  rintro r w4 ⟨rfl, hb4⟩
  clear CT
  have B4 := (Blk.new w3 R.cells 23).below hb4 (by simp)
  have b4 := (b3.alloc b3.size _).trans (hb4.mono (by have := b3.size; simp; omega))
  have c4 := B4.cell
  have l4 := B4.lt
  clear hb4 b3
  go_wp2_with fail
  refine (CU _).mono ?_
  rintro r w5 ⟨rfl, hb5⟩
  have b5' := b4.alloc b4.size (.cells R.cells 23)
  have b5 := b5'.trans (hb5.mono b5'.size)
  clear CU hb5 b5' b4 c4 l4 B4
  go_wp2_with fail
  refine (CV _).mono ?_
  rintro r w6 ⟨rfl, hb6⟩
  have b6 := b5.trans (hb6.mono b5.size)
  clear CV hb6 b5
  go_wp2_with fail
  go_ret
  exact ⟨rfl, b6⟩
set_option maxRecDepth 100000 in
theorem lifted (os : Os) (started : os.Started) (H : Type) (enc : TypeId × Value → H) :
    ReturnsInHanded {} Try.checked os 3 .any (Rows.dgramLettersSpec.pre6 enc Try.prog Try.f3 Rows.dgramLettersRow.domain false) (Rows.dgramLettersSpec.post enc Try.prog Try.f3 false true false false) := by
  refine returnsInHanded_of_change_sized (C := Try.checked) own started (by kernel_rfl) Try.func3
    (ChangeSpec.witness6 (enc := enc) (C := Try.checked) false ⟨#[], #[.agg #[.int .i64 0, .int .i64 0, .string ByteArray.empty], .int .u32 0, .int .u32 0, .string ByteArray.empty, .int .i64 0, .int .i64 0], []⟩ 8 (by kernel_rfl) (by kernel_rfl) (by kernel_rfl) (by kernel_rfl)) ?_
  intro W base args ds gs before hval0 hW hcnd hsz0 _
  have hval : ∀ (j : Nat) t v, Try.f3.params[j]? = some t → args[j]? = some v → Value.okWide Try.prog W .any base t v := hval0
  have hsz : (DataW.weightsEach Try.prog (Try.f3.params.toList ++ Rows.dgramLettersSpec.plain.varTypes Try.prog) (ds ++ gs)).all (· ≤ reachBytes) = true := hsz0
  have hW' := hW
  obtain ⟨p, q, hA0, hV, rfl, hfz, hnd⟩ := hW
  have hA : DataW.TrodAll enc Try.prog W 0 (fun _ => true) true Try.f3.params.toList args.toList ds p := hA0
  rw [Try.params3] at hA hval hsz
  obtain ⟨v0, vs0, d0, ds0, p0, q0, hargs, rfl, rfl, h0, r0⟩ := trodAll_cons hA
  obtain ⟨v1, vs1, d1, ds1, p1, q1, rfl, rfl, rfl, h1, r1⟩ := trodAll_cons r0
  obtain ⟨v2, vs2, d2, ds2, p2, q2, rfl, rfl, rfl, h2, r2⟩ := trodAll_cons r1
  obtain ⟨v3, vs3, d3, ds3, p3, q3, rfl, rfl, rfl, h3, r3⟩ := trodAll_cons r2
  obtain ⟨v4, vs4, d4, ds4, p4, q4, rfl, rfl, rfl, h4, r4⟩ := trodAll_cons r3
  obtain ⟨v5, vs5, d5, ds5, p5, q5, rfl, rfl, rfl, h5, r5⟩ := trodAll_cons r4
  obtain ⟨rfl, rfl, rfl⟩ := trodAll_nil r5
  obtain rfl : args = #[v0, v1, v2, v3, v4, v5] := by cases args; simp_all
  obtain ⟨rfl, rfl⟩ := trodVars_none hV
  have k0 := h0
  have lt0 : ∀ x ∈ p0, x.block < W.heap.size := by obtain ⟨m, hm⟩ := k0; exact DataW.trod_lt m _ _ _ hm
  have k1 := h1
  have lt1 : ∀ x ∈ p1, x.block < W.heap.size := by obtain ⟨m, hm⟩ := k1; exact DataW.trod_lt m _ _ _ hm
  have k2 := h2
  have lt2 : ∀ x ∈ p2, x.block < W.heap.size := by obtain ⟨m, hm⟩ := k2; exact DataW.trod_lt m _ _ _ hm
  have k3 := h3
  have lt3 : ∀ x ∈ p3, x.block < W.heap.size := by obtain ⟨m, hm⟩ := k3; exact DataW.trod_lt m _ _ _ hm
  have k4 := h4
  have lt4 : ∀ x ∈ p4, x.block < W.heap.size := by obtain ⟨m, hm⟩ := k4; exact DataW.trod_lt m _ _ _ hm
  have k5 := h5
  have lt5 : ∀ x ∈ p5, x.block < W.heap.size := by obtain ⟨m, hm⟩ := k5; exact DataW.trod_lt m _ _ _ hm
  obtain ⟨P, rfl, hws⟩ := open_letter (hval 0 23 v0 rfl rfl) h0
  have wsz := hws reachBytes (weighed hsz (j := 0) (t := 23) rfl rfl)
  obtain ⟨a1, rfl, rfl, rfl, w1⟩ := open_int Try.underlying24 (hval 1 24 v1 rfl rfl) h1
  obtain ⟨a2, rfl, rfl, rfl, w2⟩ := open_int Try.underlying24 (hval 2 24 v2 rfl rfl) h2
  obtain ⟨a3, rfl, rfl, rfl, w3⟩ := open_string Try.underlying9 (hval 3 9 v3 rfl rfl) h3
  obtain ⟨a4, rfl, rfl, rfl, w4⟩ := open_int Try.underlying3 (hval 4 3 v4 rfl rfl) h4
  obtain ⟨a5, rfl, rfl, rfl, w5⟩ := open_int Try.underlying3 (hval 5 3 v5 rfl rfl) h5
  have x1 := bounds_u32 w1
  have x2 := bounds_u32 w2
  have sz3 : a3.size ≤ 140737488351232 := by
    have hx := sized_string hsz (j := 3) (t := 9) rfl rfl
    simpa [reachBytes] using hx
  simp only [reachBytes] at wsz
  clear hA0 hval0 hsz0 hsz
  refine (walk P a1 a2 a3 a4 a5 (by omega) ⟨x1.1, x1.2⟩ ⟨x2.1, x2.2⟩ (by omega) W).mono fun e W' ⟨he, bel⟩ => ?_
  subst he
  exact ⟨_, rfl, _, _, _, [], _, [], hW', trodAll_mk1 (shut_bool Try.underlying4 _), (trodAll_cons_mk (Below.trod laidOut (by kernel_rfl) (of_decide_eq_true (by kernel_rfl)) k0 bel lt0) (trodAll_cons_mk (Below.trod laidOut (by kernel_rfl) (of_decide_eq_true (by kernel_rfl)) k1 bel lt1) (trodAll_cons_mk (Below.trod laidOut (by kernel_rfl) (of_decide_eq_true (by kernel_rfl)) k2 bel lt2) (trodAll_cons_mk (Below.trod laidOut (by kernel_rfl) (of_decide_eq_true (by kernel_rfl)) k3 bel lt3) (trodAll_cons_mk (Below.trod laidOut (by kernel_rfl) (of_decide_eq_true (by kernel_rfl)) k4 bel lt4) (trodAll_cons_mk (Below.trod laidOut (by kernel_rfl) (of_decide_eq_true (by kernel_rfl)) k5 bel lt5) trodAll_mk0)))))), rfl, bel.frame _, fun h => by cases h⟩

theorem over : Rows.dgramLettersRow.holds Try.pinned (OpenSpec.ofChange Rows.dgramLettersSpec) :=
  OpenClaim.holds_of_wide 3 Try.f3 rfl rfl rfl rfl rfl rfl rfl ⟨rfl, rfl, rfl, rfl, rfl⟩ rfl rfl rfl rfl rfl (by kernel_rfl) Try.func3 (by kernel_rfl)
    (of_decide_eq_true (by kernel_rfl)) (by unfold Func.isWrapper; first | (rw [if_pos (by decide +kernel)]; kernel_rfl) | (rw [if_neg (by decide +kernel)]; exact ⟨rfl, rfl⟩))
    (fun os started H enc _ => lifted os started H enc)

theorem proved : Rows.DgramLettersSaid :=
  over
end Go.Proofs.Ytohonfpmaafnaaa.dgramLetters
