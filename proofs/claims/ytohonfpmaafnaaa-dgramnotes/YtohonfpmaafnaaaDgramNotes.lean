/- For every note n and every text s the law DgramNotes returns true: dgram.WriteNote and ReadNote answer what the document says; there are no conditions. -/
import Derived.Test.YtohonfpmaafnaaaDgRef5
import Derived.Test.YtohonfpmaafnaaaArgsDg
import Derived.Test.YtohonfpmaafnaaaRows
import Derived.WalkKit
import Derived.ProofKit
import Derived.OpenShut
import Derived.ShutString
import Derived.ChangeOld
import Derived.Below
import Derived.SizedLaws
namespace Go.Proofs.Ytohonfpmaafnaaa.dgramNotes
open Go.ChangeShapes Go.WideShapes Go.ChangeAt Go.RowKit
open Go.ChangeMaps (open_string shut_string)
set_option linter.unusedVariables false

theorem own : ownKnob Try.prog.godebug = none := by kernel_rfl
theorem laidOut : laidOutB Try.prog = true := by kernel_rfl

open Go.Proofs.Ytohonfpmaafnaaa Go.Proofs.Ytohonfpmaafnaaa.boxes Go.Proofs.Ytohonfpmaafnaaa.argsd Go.Proofs.Ytohonfpmaafnaaa.dgb Go.Proofs.Ytohonfpmaafnaaa.dgi Go.Proofs.Ytohonfpmaafnaaa.dgn
set_option maxHeartbeats 2000000 in
theorem walk (p : Nt) (s : ByteArray) (h : p.d.size ≤ 281474976710656) (hs : s.size ≤ 281474976710656) (w : World) :
    Calls Try.prog 4 #[.agg p.cells, .string s] w fun e w' => e = .returned (.bool true) ∧ Below w.heap.size w w' := by
  have CW := fun u => writeNote_any p u (by omega)
  have CF := fun u => dgf.noteText_any p u h
  have CR := fun u => readNote_any s u hs
  have CT := fun u => dgf.textNote_any s u hs
  generalize p.out = o at CW CF
  generalize p.err = e at CW CF
  generalize rn s = R at CR CT
  generalize rne s = g at CR CT
  have Z := fun u => four_eq R.r0 R.r1 R.r2 R.r3 9997 u
  have F0 : Blk (w.alloc (.cells p.cells 34)) w.heap.size p.cells 34 := Blk.new _ _ _
  have b0 := (Below.refl w.heap.size w).alloc (Nat.le_refl _) (.cells p.cells 34)
  go_enter Try.func4, Try.ntmps4
  go_wp2_with (refine blk_load _ rfl 34 _ rfl w.heap.size rfl _ _ F0 _ Try.underlying34 rfl 7 nt_info rfl ?_)
  refine (CW _).mono ?_
  rintro r w1 ⟨rfl, hb1⟩
  clear CW
  have F1 := F0.below hb1 F0.lt
  have b1 := b0.trans (hb1.mono b0.size)
  go_wp2_with (refine blk_load _ rfl 34 _ rfl w.heap.size rfl _ _ F1 _ Try.underlying34 rfl 7 nt_info rfl ?_)
  refine (CF _).mono ?_
  rintro r w2 ⟨rfl, hb2⟩
  clear CF F0 F1
  have b2 := b1.trans (hb2.mono b1.size)
  go_wp2_with fail
  refine (CR _).mono ?_
  rintro r w3 ⟨rfl, hb3⟩
  clear CR
  have b3 := b2.trans (hb3.mono b2.size)
  clear hb1 hb2 hb3 b0 b1 b2
  go_wp2_with fail
  refine (CT _).mono ?_
  rintro r w4 ⟨rfl, hb4⟩
  clear CT
  have B4 := (Blk.new w3 R.cells 34).below hb4 (by simp)
  have b4 := (b3.alloc b3.size _).trans (hb4.mono (by have := b3.size; simp; omega))
  have c4 := B4.cell
  have l4 := B4.lt
  clear hb4 b3
  go_wp2_with fail
  go_ret
  exact ⟨rfl, b4.alloc b4.size _⟩
set_option maxRecDepth 100000 in
theorem lifted (os : Os) (started : os.Started) (H : Type) (enc : TypeId × Value → H) :
    ReturnsInHanded {} Try.checked os 4 .any (Rows.dgramNotesSpec.pre6 enc Try.prog Try.f4 Rows.dgramNotesRow.domain false) (Rows.dgramNotesSpec.post enc Try.prog Try.f4 false true false false) := by
  refine returnsInHanded_of_change_sized (C := Try.checked) own started (by kernel_rfl) Try.func4
    (ChangeSpec.witness6 (enc := enc) (C := Try.checked) false ⟨#[], #[.agg #[.int .i64 0, .int .i64 0, .int .u8 0, .int .u8 0, .int .u8 0, .int .u8 0, .string ByteArray.empty], .string ByteArray.empty], []⟩ 8 (by kernel_rfl) (by kernel_rfl) (by kernel_rfl) (by kernel_rfl)) ?_
  intro W base args ds gs before hval0 hW hcnd hsz0 _
  have hval : ∀ (j : Nat) t v, Try.f4.params[j]? = some t → args[j]? = some v → Value.okWide Try.prog W .any base t v := hval0
  have hsz : (DataW.weightsEach Try.prog (Try.f4.params.toList ++ Rows.dgramNotesSpec.plain.varTypes Try.prog) (ds ++ gs)).all (· ≤ reachBytes) = true := hsz0
  have hW' := hW
  obtain ⟨p, q, hA0, hV, rfl, hfz, hnd⟩ := hW
  have hA : DataW.TrodAll enc Try.prog W 0 (fun _ => true) true Try.f4.params.toList args.toList ds p := hA0
  rw [Try.params4] at hA hval hsz
  obtain ⟨v0, vs0, d0, ds0, p0, q0, hargs, rfl, rfl, h0, r0⟩ := trodAll_cons hA
  obtain ⟨v1, vs1, d1, ds1, p1, q1, rfl, rfl, rfl, h1, r1⟩ := trodAll_cons r0
  obtain ⟨rfl, rfl, rfl⟩ := trodAll_nil r1
  obtain rfl : args = #[v0, v1] := by cases args; simp_all
  obtain ⟨rfl, rfl⟩ := trodVars_none hV
  have k0 := h0
  have lt0 : ∀ x ∈ p0, x.block < W.heap.size := by obtain ⟨m, hm⟩ := k0; exact DataW.trod_lt m _ _ _ hm
  have k1 := h1
  have lt1 : ∀ x ∈ p1, x.block < W.heap.size := by obtain ⟨m, hm⟩ := k1; exact DataW.trod_lt m _ _ _ hm
  obtain ⟨P, rfl, hws⟩ := open_note (hval 0 34 v0 rfl rfl) h0
  have wsz := hws reachBytes (weighed hsz (j := 0) (t := 34) rfl rfl)
  obtain ⟨a1, rfl, rfl, rfl, w1⟩ := open_string Try.underlying9 (hval 1 9 v1 rfl rfl) h1
  have sz1 : a1.size ≤ 140737488351232 := by
    have hx := sized_string hsz (j := 1) (t := 9) rfl rfl
    simpa [reachBytes] using hx
  simp only [reachBytes] at wsz
  clear hA0 hval0 hsz0 hsz
  refine (walk P a1 (by omega) (by omega) W).mono fun e W' ⟨he, bel⟩ => ?_
  subst he
  exact ⟨_, rfl, _, _, _, [], _, [], hW', trodAll_mk1 (shut_bool Try.underlying4 _), (trodAll_cons_mk (Below.trod laidOut (by kernel_rfl) (of_decide_eq_true (by kernel_rfl)) k0 bel lt0) (trodAll_cons_mk (Below.trod laidOut (by kernel_rfl) (of_decide_eq_true (by kernel_rfl)) k1 bel lt1) trodAll_mk0)), rfl, bel.frame _, fun h => by cases h⟩

theorem over : Rows.dgramNotesRow.holds Try.pinned (OpenSpec.ofChange Rows.dgramNotesSpec) :=
  OpenClaim.holds_of_wide 4 Try.f4 rfl rfl rfl rfl rfl rfl rfl ⟨rfl, rfl, rfl, rfl, rfl⟩ rfl rfl rfl rfl rfl (by kernel_rfl) Try.func4 (by kernel_rfl)
    (of_decide_eq_true (by kernel_rfl)) (by unfold Func.isWrapper; first | (rw [if_pos (by decide +kernel)]; kernel_rfl) | (rw [if_neg (by decide +kernel)]; exact ⟨rfl, rfl⟩))
    (fun os started H enc _ => lifted os started H enc)

theorem proved : Rows.DgramNotesSaid :=
  over
end Go.Proofs.Ytohonfpmaafnaaa.dgramNotes
