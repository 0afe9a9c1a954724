/- For every frame f and every text s the law EthFrames returns true: eth.Write and eth.Read answer what the document says; there are no conditions. -/
import Derived.Test.YtolhmmnaohadcaaEthFtE
import Derived.Test.YtolhmmnaohadcaaEthTextP
import Derived.Test.YtolhmmnaohadcaaEthTextT
import Derived.Test.YtolhmmnaohadcaaEthRead
import Derived.Test.YtolhmmnaohadcaaEthCut
import Derived.Test.YtolhmmnaohadcaaArgsEth
import Derived.Test.YtolhmmnaohadcaaRows
import Derived.WalkKit
import Derived.ProofKit
import Derived.OpenShut
import Derived.ShutString
import Derived.ChangeOld
import Derived.Below
import Derived.SizedLaws
namespace Go.Proofs.Ytolhmmnaohadcaa.ethFrames
open Go.ChangeShapes Go.WideShapes Go.ChangeAt Go.RowKit
open Go.ChangeMaps (open_string shut_string)
set_option linter.unusedVariables false

theorem own : ownKnob Try.prog.godebug = none := by kernel_rfl
theorem laidOut : laidOutB Try.prog = true := by kernel_rfl

open Go.Proofs.Ytolhmmnaohadcaa.EM Go.Proofs.Ytolhmmnaohadcaa.ethb Go.Proofs.Ytolhmmnaohadcaa.ethf Go.Proofs.Ytolhmmnaohadcaa.etht Go.Proofs.Ytolhmmnaohadcaa.ethl Go.Proofs.Ytolhmmnaohadcaa.argse Go.Proofs.Ytolhmmnaohadcaa.ethc
theorem write_any (t0 t1 t2 t3 t4 t5 f0 f1 f2 f3 f4 f5 : UInt8) (v y : Int) (d : ByteArray) (w : World) (hd : d.size ≤ 9223372036854775807) :
    Calls Try.prog 6 #[.agg (frame t0.toNat t1.toNat t2.toNat t3.toNat t4.toNat t5.toNat f0.toNat f1.toNat f2.toNat f3.toNat f4.toNat f5.toNat v y d)] w fun e w' =>
      e = .returned (.tuple #[.string (wrs t0 t1 t2 t3 t4 t5 f0 f1 f2 f3 f4 f5 v y d), .int .i64 (wre v y d.size)]) ∧ Below w.heap.size w w' := by
  by_cases h : wre v y d.size = 0
  · have := ethw.write_ok t0 t1 t2 t3 t4 t5 f0 f1 f2 f3 f4 f5 v y d w h
    have e : wrs t0 t1 t2 t3 t4 t5 f0 f1 f2 f3 f4 f5 v y d = ⟨(wrl t0 t1 t2 t3 t4 t5 f0 f1 f2 f3 f4 f5 v y d).toArray⟩ := by unfold wrs; rw [if_pos h]
    rw [e, h]; exact this
  · have := ethw.write_bad t0.toNat t1.toNat t2.toNat t3.toNat t4.toNat t5.toNat f0.toNat f1.toNat f2.toNat f3.toNat f4.toNat f5.toNat v y d w hd (by simpa using h)
    have e : wrs t0 t1 t2 t3 t4 t5 f0 f1 f2 f3 f4 f5 v y d = ⟨#[]⟩ := by unfold wrs; rw [if_neg h]
    rw [e]; exact this
theorem text_any (s : ByteArray) (w : World) (hs : s.size ≤ 281474976710656) :
    Calls Try.prog 9 #[.string s] w fun e w' => e = .returned (.tuple #[.agg (rdf s), .int .i64 (rde s)]) ∧ Below w.heap.size w w' := by
  by_cases h : s.size < 14
  · refine (text_short s w h).mono ?_
    rintro e w' ⟨rfl, hb⟩
    have e1 : rde s = 3 := by simp [rde, h]
    exact ⟨ret_frame (by simp [rdf, e1]) e1.symm, hb⟩
  by_cases ht : wd s 12 = 33024
  · by_cases h1 : s.size < 18
    · refine (text_tagShort s w hs (by omega) h1 (by simpa using ht)).mono ?_
      rintro e w' ⟨rfl, hb⟩
      have e1 : rde s = 3 := by simp [rde, h, ht, h1]
      exact ⟨ret_frame (by simp [rdf, e1]) e1.symm, hb⟩
    · exact text_tag s w hs (by omega) (by simpa using ht)
  · exact text_plain s w hs (by omega) (by simpa using ht)
set_option maxHeartbeats 2000000 in
theorem core (t0 t1 t2 t3 t4 t5 f0 f1 f2 f3 f4 f5 : UInt8) (v y : Int) (d s c D : ByteArray) (e g x0 x1 x2 x3 x4 x5 x6 x7 x8 x9 x10 x11 v' y' : Int) (w : World)
    (CW : ∀ u, Hid (Calls Try.prog 6 #[.agg (frame t0.toNat t1.toNat t2.toNat t3.toNat t4.toNat t5.toNat f0.toNat f1.toNat f2.toNat f3.toNat f4.toNat f5.toNat v y d)] u fun r w' => r = .returned (.tuple #[.string c, .int .i64 e]) ∧ Below u.heap.size u w'))
    (CF : ∀ u, Hid (Calls Try.prog 7 #[.agg (frame t0.toNat t1.toNat t2.toNat t3.toNat t4.toNat t5.toNat f0.toNat f1.toNat f2.toNat f3.toNat f4.toNat f5.toNat v y d)] u fun r w' => r = .returned (.tuple #[.string c, .int .i64 e]) ∧ Below u.heap.size u w'))
    (CR : ∀ u, Hid (Calls Try.prog 8 #[.string s] u fun r w' => r = .returned (.tuple #[.agg (frame x0 x1 x2 x3 x4 x5 x6 x7 x8 x9 x10 x11 v' y' D), .int .i64 g]) ∧ Below u.heap.size u w'))
    (CT : ∀ u, Hid (Calls Try.prog 9 #[.string s] u fun r w' => r = .returned (.tuple #[.agg (frame x0 x1 x2 x3 x4 x5 x6 x7 x8 x9 x10 x11 v' y' D), .int .i64 g]) ∧ Below u.heap.size u w'))
    (Z1 : ∀ u, (Op.equalIn 9999 23 (.agg #[.int .u8 x0, .int .u8 x1, .int .u8 x2, .int .u8 x3, .int .u8 x4, .int .u8 x5]) (.agg #[.int .u8 x0, .int .u8 x1, .int .u8 x2, .int .u8 x3, .int .u8 x4, .int .u8 x5])).run Try.prog u = .ok true u)
    (Z2 : ∀ u, (Op.equalIn 9999 23 (.agg #[.int .u8 x6, .int .u8 x7, .int .u8 x8, .int .u8 x9, .int .u8 x10, .int .u8 x11]) (.agg #[.int .u8 x6, .int .u8 x7, .int .u8 x8, .int .u8 x9, .int .u8 x10, .int .u8 x11])).run Try.prog u = .ok true u) :
    Calls Try.prog 3 #[.agg (frame t0.toNat t1.toNat t2.toNat t3.toNat t4.toNat t5.toNat f0.toNat f1.toNat f2.toNat f3.toNat f4.toNat f5.toNat v y d), .string s] w fun e w' => e = .returned (.bool true) ∧ Below w.heap.size w w' := by
  go_enter Try.func3, Try.ntmps3
  go_wp2_with fail
  refine (CW _).out.mono ?_
  rintro r w1 ⟨rfl, hb1⟩
  clear CW
  have F1 := (Box.new _ _ _).below hb1
  have l1 := F1.lt
  have c1 := F1.cell
  go_wp2_with fail
  refine (CF _).out.mono ?_
  rintro r w2 ⟨rfl, hb2⟩
  clear CF l1 c1
  go_wp2_with fail
  refine (CR _).out.mono ?_
  rintro r w3 ⟨rfl, hb3⟩
  clear CR
  go_wp2_with fail
  refine (CT _).out.mono ?_
  rintro r w4 ⟨rfl, hb4⟩
  clear CT
  have X4 := (Box.new _ _ _).below hb4
  have l4 := X4.lt
  have c4 := X4.cell
  have z1 := hb1.size
  have z2 := hb2.size
  have z3 := hb3.size
  have z4 := hb4.size
  simp at z1 z4
  go_wp2_with fail
  go_ret
  refine ⟨rfl, ?_⟩
  have b1 := ((Below.refl w.heap.size w).alloc (Nat.le_refl _) _).trans (hb1.mono (by simp))
  have b2 := b1.trans (hb2.mono (by omega))
  have b3 := b2.trans (hb3.mono (by omega))
  exact ((b3.alloc (by omega) _).trans (hb4.mono (by simp; omega))).alloc (by omega) _
theorem bt_wf (s : ByteArray) (k : Nat) : (Lit.int .u8 (bt s k)).wf = true := by
  have := bt_bd s k
  simp [Lit.wf, IntKind.min, IntKind.max, IntKind.signed, IntKind.bits]; omega
theorem walk (t0 t1 t2 t3 t4 t5 f0 f1 f2 f3 f4 f5 : UInt8) (v y : Int) (d s : ByteArray) (hd : d.size ≤ 9223372036854775807) (hs : s.size ≤ 140737488351232) (w : World) :
    Calls Try.prog 3 #[.agg (frame t0.toNat t1.toNat t2.toNat t3.toNat t4.toNat t5.toNat f0.toNat f1.toNat f2.toNat f3.toNat f4.toNat f5.toNat v y d), .string s] w fun e w' => e = .returned (.bool true) ∧ Below w.heap.size w w' := by
  by_cases h : rde s = 0
  · obtain ⟨k, v', y', hh⟩ := head_of s h
    refine core t0 t1 t2 t3 t4 t5 f0 f1 f2 f3 f4 f5 v y d s _ (s.extract k s.size) _ 0 _ _ _ _ _ _ _ _ _ _ _ _ v' y' w (fun u => write_any _ _ _ _ _ _ _ _ _ _ _ _ _ _ _ u hd) (fun u => ft_any _ _ _ _ _ _ _ _ _ _ _ _ _ _ _ u) (fun u => ?_) (fun u => ?_)
      (fun u => mac_eq _ _ _ _ _ _ (bt_wf s 0) (bt_wf s 1) (bt_wf s 2) (bt_wf s 3) (bt_wf s 4) (bt_wf s 5) 9997 u) (fun u => mac_eq _ _ _ _ _ _ (bt_wf s 6) (bt_wf s 7) (bt_wf s 8) (bt_wf s 9) (bt_wf s 10) (bt_wf s 11) 9997 u)
    · have := ethr.read_any s u (by omega)
      rw [h, hh.self] at this; exact this
    · have := text_any s u (by omega)
      rw [h, hh.self] at this; exact this
  · have z : rdf s = zeroF := by unfold rdf; rw [if_neg h]
    refine core t0 t1 t2 t3 t4 t5 f0 f1 f2 f3 f4 f5 v y d s _ ⟨#[]⟩ _ (rde s) 0 0 0 0 0 0 0 0 0 0 0 0 0 0 w (fun u => write_any _ _ _ _ _ _ _ _ _ _ _ _ _ _ _ u hd) (fun u => ft_any _ _ _ _ _ _ _ _ _ _ _ _ _ _ _ u) (fun u => ?_) (fun u => ?_)
      (fun u => mac_eq _ _ _ _ _ _ (by decide) (by decide) (by decide) (by decide) (by decide) (by decide) 9997 u) (fun u => mac_eq _ _ _ _ _ _ (by decide) (by decide) (by decide) (by decide) (by decide) (by decide) 9997 u)
    · have := ethr.read_any s u (by omega)
      rw [z] at this; exact this
    · have := text_any s u (by omega)
      rw [z] at this; exact this
set_option maxRecDepth 100000 in
theorem lifted (os : Os) (started : os.Started) (H : Type) (enc : TypeId × Value → H) :
    ReturnsInHanded {} Try.checked os 3 .any (Rows.ethFramesSpec.pre6 enc Try.prog Try.f3 Rows.ethFramesRow.domain false) (Rows.ethFramesSpec.post enc Try.prog Try.f3 false true false false) := by
  refine returnsInHanded_of_change_sized (C := Try.checked) own started (by kernel_rfl) Try.func3
    (ChangeSpec.witness6 (enc := enc) (C := Try.checked) false ⟨#[], #[.agg #[.int .u8 0, .int .u8 0, .int .u8 0, .int .u8 0, .int .u8 0, .int .u8 0, .int .u8 0, .int .u8 0, .int .u8 0, .int .u8 0, .int .u8 0, .int .u8 0, .int .i64 0, .int .i64 0, .string ByteArray.empty], .string ByteArray.empty], []⟩ 8 (by kernel_rfl) (by kernel_rfl) (by kernel_rfl) (by kernel_rfl)) ?_
  intro W base args ds gs before hval0 hW hcnd hsz0 _
  have hval : ∀ (j : Nat) t v, Try.f3.params[j]? = some t → args[j]? = some v → Value.okWide Try.prog W .any base t v := hval0
  have hsz : (DataW.weightsEach Try.prog (Try.f3.params.toList ++ Rows.ethFramesSpec.plain.varTypes Try.prog) (ds ++ gs)).all (· ≤ reachBytes) = true := hsz0
  have hW' := hW
  obtain ⟨p, q, hA0, hV, rfl, hfz, hnd⟩ := hW
  have hA : DataW.TrodAll enc Try.prog W 0 (fun _ => true) true Try.f3.params.toList args.toList ds p := hA0
  rw [Try.params3] at hA hval hsz
  obtain ⟨v0, vs0, d0, ds0, p0, q0, hargs, rfl, rfl, h0, r0⟩ := trodAll_cons hA
  obtain ⟨v1, vs1, d1, ds1, p1, q1, rfl, rfl, rfl, h1, r1⟩ := trodAll_cons r0
  obtain ⟨rfl, rfl, rfl⟩ := trodAll_nil r1
  obtain rfl : args = #[v0, v1] := by cases args; simp_all
  obtain ⟨rfl, rfl⟩ := trodVars_none hV
  have k0 := h0
  have lt0 : ∀ x ∈ p0, x.block < W.heap.size := by obtain ⟨m, hm⟩ := k0; exact DataW.trod_lt m _ _ _ hm
  have k1 := h1
  have lt1 : ∀ x ∈ p1, x.block < W.heap.size := by obtain ⟨m, hm⟩ := k1; exact DataW.trod_lt m _ _ _ hm
  obtain ⟨t0, t1, t2, t3, t4, t5, f0, f1, f2, f3, f4, f5, vl, y, s0, rfl, _, _, ws⟩ := open_frame (hval 0 25 v0 rfl rfl) h0
  obtain ⟨a1, rfl, rfl, rfl, w1⟩ := open_string Try.underlying9 (hval 1 9 v1 rfl rfl) h1
  have sz1 : a1.size ≤ 140737488351232 := by
    have hx := sized_string hsz (j := 1) (t := 9) rfl rfl
    simpa [reachBytes] using hx
  clear hA0 hval0 hsz0 hsz
  refine (walk t0 t1 t2 t3 t4 t5 f0 f1 f2 f3 f4 f5 vl y s0 a1 (by simpa [maxLen] using ws) sz1 W).mono fun e W' ⟨he, bel⟩ => ?_
  subst he
  exact ⟨_, rfl, _, _, _, [], _, [], hW', trodAll_mk1 (shut_bool Try.underlying4 _), (trodAll_cons_mk (Below.trod laidOut (by kernel_rfl) (of_decide_eq_true (by kernel_rfl)) k0 bel lt0) (trodAll_cons_mk (Below.trod laidOut (by kernel_rfl) (of_decide_eq_true (by kernel_rfl)) k1 bel lt1) trodAll_mk0)), rfl, bel.frame _, fun h => by cases h⟩

theorem over : Rows.ethFramesRow.holds Try.pinned (OpenSpec.ofChange Rows.ethFramesSpec) :=
  OpenClaim.holds_of_wide 3 Try.f3 rfl rfl rfl rfl rfl rfl rfl ⟨rfl, rfl, rfl, rfl, rfl⟩ rfl rfl rfl rfl rfl (by kernel_rfl) Try.func3 (by kernel_rfl)
    (of_decide_eq_true (by kernel_rfl)) (by unfold Func.isWrapper; first | (rw [if_pos (by decide +kernel)]; kernel_rfl) | (rw [if_neg (by decide +kernel)]; exact ⟨rfl, rfl⟩))
    (fun os started H enc _ => lifted os started H enc)

theorem proved : Rows.EthFramesSaid :=
  over
end Go.Proofs.Ytolhmmnaohadcaa.ethFrames
