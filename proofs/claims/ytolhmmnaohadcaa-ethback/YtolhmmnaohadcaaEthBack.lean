/- For every frame f, text s and address m the law EthBack returns true: a frame is read as it was written, and what is read is written so; so with addresses that are shown; there are no conditions. -/
import Derived.Test.YtolhmmnaohadcaaEthBackIn
import Derived.Test.YtolhmmnaohadcaaArgsEth
import Derived.Test.YtolhmmnaohadcaaRows
import Derived.WalkKit
import Derived.ProofKit
import Derived.OpenShut
import Derived.ShutString
import Derived.ChangeOld
import Derived.Below
import Derived.SizedLaws
namespace Go.Proofs.Ytolhmmnaohadcaa.ethBack
open Go.ChangeShapes Go.WideShapes Go.ChangeAt Go.RowKit
open Go.ChangeMaps (open_string shut_string)
set_option linter.unusedVariables false

theorem own : ownKnob Try.prog.godebug = none := by kernel_rfl
theorem laidOut : laidOutB Try.prog = true := by kernel_rfl

open Go.Proofs.Ytolhmmnaohadcaa.EM Go.Proofs.Ytolhmmnaohadcaa.EH Go.Proofs.Ytolhmmnaohadcaa.ethb Go.Proofs.Ytolhmmnaohadcaa.ethl Go.Proofs.Ytolhmmnaohadcaa.argse Go.Proofs.Ytolhmmnaohadcaa.ethm Go.Proofs.Ytolhmmnaohadcaa.ethp Go.Proofs.Ytolhmmnaohadcaa.ethback
theorem byte_wf (x : UInt8) : (Lit.int .u8 (x.toNat : Int)).wf = true := by
  have := x.toNat_lt
  simp [Lit.wf, IntKind.min, IntKind.max, IntKind.signed, IntKind.bits]; omega
theorem mac_same (a0 a1 a2 a3 a4 a5 : UInt8) (k : Nat) (u : World) : (Op.equalIn (k + 2) 23 (.agg #[.int .u8 (a0.toNat : Int), .int .u8 (a1.toNat : Int), .int .u8 (a2.toNat : Int), .int .u8 (a3.toNat : Int), .int .u8 (a4.toNat : Int), .int .u8 (a5.toNat : Int)]) (.agg #[.int .u8 (a0.toNat : Int), .int .u8 (a1.toNat : Int), .int .u8 (a2.toNat : Int), .int .u8 (a3.toNat : Int), .int .u8 (a4.toNat : Int), .int .u8 (a5.toNat : Int)])).run Try.prog u = .ok true u :=
  mac_eq _ _ _ _ _ _ (byte_wf a0) (byte_wf a1) (byte_wf a2) (byte_wf a3) (byte_wf a4) (byte_wf a5) k u
/-- what is written of a frame, and read again -/
theorem wr (t0 t1 t2 t3 t4 t5 f0 f1 f2 f3 f4 f5 : UInt8) (v y : Int) (d : ByteArray) (hd : d.size ≤ 9223372036854775807) :
    ∃ (c : ByteArray) (e : Int), (∀ u, Hid (Calls Try.prog 6 #[.agg (frame t0.toNat t1.toNat t2.toNat t3.toNat t4.toNat t5.toNat f0.toNat f1.toNat f2.toNat f3.toNat f4.toNat f5.toNat v y d)] u fun r w' => r = .returned (.tuple #[.string c, .int .i64 e]) ∧ Below u.heap.size u w')) ∧
      (e = 0 → ∀ u, Hid (Calls Try.prog 8 #[.string c] u fun r w' => r = .returned (.tuple #[.agg (frame t0.toNat t1.toNat t2.toNat t3.toNat t4.toNat t5.toNat f0.toNat f1.toNat f2.toNat f3.toNat f4.toNat f5.toNat v y d), .int .i64 0]) ∧ Below u.heap.size u w')) := by
  by_cases h : wre v y d.size = 0
  · obtain ⟨h1, h2, h3⟩ := back_rd t0 t1 t2 t3 t4 t5 f0 f1 f2 f3 f4 f5 v y d h
    refine ⟨_, 0, fun u => ethw.write_ok t0 t1 t2 t3 t4 t5 f0 f1 f2 f3 f4 f5 v y d u h, fun _ u => ?_⟩
    have := ethr.read_any _ u (Nat.le_trans h3 (by omega))
    rw [h1, h2] at this; exact this
  · exact ⟨_, _, fun u => ethw.write_bad t0.toNat t1.toNat t2.toNat t3.toNat t4.toNat t5.toNat f0.toNat f1.toNat f2.toNat f3.toNat f4.toNat f5.toNat v y d u hd (by simpa using h), fun e => absurd e h⟩
/-- what is read of a text, and written again -/
theorem rd (s : ByteArray) (hs : s.size ≤ 140737488351232) :
    ∃ (x0 x1 x2 x3 x4 x5 x6 x7 x8 x9 x10 x11 v y : Int) (D : ByteArray) (e : Int), (∀ u, Hid (Calls Try.prog 8 #[.string s] u fun r w' => r = .returned (.tuple #[.agg (frame x0 x1 x2 x3 x4 x5 x6 x7 x8 x9 x10 x11 v y D), .int .i64 e]) ∧ Below u.heap.size u w')) ∧
      (e = 0 → ∀ u, Hid (Calls Try.prog 6 #[.agg (frame x0 x1 x2 x3 x4 x5 x6 x7 x8 x9 x10 x11 v y D)] u fun r w' => r = .returned (.tuple #[.string s, .int .i64 0]) ∧ Below u.heap.size u w')) := by
  by_cases h : rde s = 0
  · obtain ⟨v, y, D, h1, h2, h3⟩ := back_wr s h
    refine ⟨bt s 0, bt s 1, bt s 2, bt s 3, bt s 4, bt s 5, bt s 6, bt s 7, bt s 8, bt s 9, bt s 10, bt s 11, v, y, D, 0, fun u => ?_, fun _ u => ?_⟩
    · have := ethr.read_any s u (by omega)
      rw [h, h1] at this; exact this
    · have := ethw.write_ok (by8 s 0) (by8 s 1) (by8 s 2) (by8 s 3) (by8 s 4) (by8 s 5) (by8 s 6) (by8 s 7) (by8 s 8) (by8 s 9) (by8 s 10) (by8 s 11) v y D u h2
      rw [h3] at this; exact this
  · have z : rdf s = zeroF := by unfold rdf; rw [if_neg h]
    refine ⟨0, 0, 0, 0, 0, 0, 0, 0, 0, 0, 0, 0, 0, 0, ⟨#[]⟩, rde s, fun u => ?_, fun e => absurd e h⟩
    have := ethr.read_any s u (by omega)
    rw [z] at this; exact this
/-- what is parsed of a text, and shown again -/
theorem ps (s : ByteArray) :
    ∃ (p0 p1 p2 p3 p4 p5 e : Int), (∀ u, Hid (Calls Try.prog 10 #[.string s] u fun r w' => r = .returned (.tuple #[.agg #[.int .u8 p0, .int .u8 p1, .int .u8 p2, .int .u8 p3, .int .u8 p4, .int .u8 p5], .int .i64 e]) ∧ Below u.heap.size u w')) ∧
      (e = 0 → ∀ u, Hid (Calls Try.prog 11 #[.agg #[.int .u8 p0, .int .u8 p1, .int .u8 p2, .int .u8 p3, .int .u8 p4, .int .u8 p5]] u fun r w' => r = .returned (.string s) ∧ Below u.heap.size u w')) := by
  by_cases h : s.size = 17
  · by_cases ha : aok s
    · obtain ⟨h1, h2⟩ := back_show s h ha
      refine ⟨((xD s 0).toNat : Int), ((xD s 1).toNat : Int), ((xD s 2).toNat : Int), ((xD s 3).toNat : Int), ((xD s 4).toNat : Int), ((xD s 5).toNat : Int), 0, fun u => ?_, fun _ u => ?_⟩
      rotate_left
      · have := eths.show_any (xD s 0) (xD s 1) (xD s 2) (xD s 3) (xD s 4) (xD s 5) u
        rw [h2] at this; exact this
      · refine (parse_17 s u (by simp; omega)).mono ?_
        rintro r w' ⟨g | g, hb⟩
        · refine ⟨?_, hb⟩
          rw [g.2, h1]
        · exact absurd ha g.1
    · refine ⟨0, 0, 0, 0, 0, 0, 10, fun u => ?_, fun e => absurd e (by decide)⟩
      refine (parse_17 s u (by simp; omega)).mono ?_
      rintro r w' ⟨g | g, hb⟩
      · exact absurd g.1 ha
      · refine ⟨?_, hb⟩
        rw [g.2, pa_zero]
  · refine ⟨0, 0, 0, 0, 0, 0, 10, fun u => parse_long s u (by simp; omega), fun e => absurd e (by decide)⟩
theorem walk (t0 t1 t2 t3 t4 t5 f0 f1 f2 f3 f4 f5 m0 m1 m2 m3 m4 m5 : UInt8) (v y : Int) (d s : ByteArray) (w : World) (hd : d.size ≤ 9223372036854775807) (hs : s.size ≤ 140737488351232) :
    Calls Try.prog 4 #[.agg (frame t0.toNat t1.toNat t2.toNat t3.toNat t4.toNat t5.toNat f0.toNat f1.toNat f2.toNat f3.toNat f4.toNat f5.toNat v y d), .string s, .agg #[.int .u8 (m0.toNat : Int), .int .u8 (m1.toNat : Int), .int .u8 (m2.toNat : Int), .int .u8 (m3.toNat : Int), .int .u8 (m4.toNat : Int), .int .u8 (m5.toNat : Int)]] w fun e w' => e = .returned (.bool true) ∧ Below w.heap.size w w' := by
  obtain ⟨c, e, CW, CR⟩ := wr t0 t1 t2 t3 t4 t5 f0 f1 f2 f3 f4 f5 v y d hd
  obtain ⟨x0, x1, x2, x3, x4, x5, x6, x7, x8, x9, x10, x11, v', y', D, e2, CS, CV⟩ := rd s hs
  obtain ⟨p0, p1, p2, p3, p4, p5, e4, CP, CQ⟩ := ps s
  obtain ⟨h1, h2, h3⟩ := back_parse m0 m1 m2 m3 m4 m5
  refine core t0 t1 t2 t3 t4 t5 f0 f1 f2 f3 f4 f5 m0 m1 m2 m3 m4 m5 v y d s c D _ e e2 e4 x0 x1 x2 x3 x4 x5 x6 x7 x8 x9 x10 x11 v' y' p0 p1 p2 p3 p4 p5 w CW CR CS CV (fun u => eths.show_any m0 m1 m2 m3 m4 m5 u) (fun u => ?_) CP CQ
    (fun u => mac_same t0 t1 t2 t3 t4 t5 9997 u) (fun u => mac_same f0 f1 f2 f3 f4 f5 9997 u) (fun u => mac_same m0 m1 m2 m3 m4 m5 9998 u)
  refine (parse_17 _ u (by rw [h1]; decide)).mono ?_
  rintro r w' ⟨g | g, hb⟩
  · refine ⟨?_, hb⟩
    rw [g.2, h3]
  · exact absurd h2 g.1
set_option maxRecDepth 100000 in
theorem lifted (os : Os) (started : os.Started) (H : Type) (enc : TypeId × Value → H) :
    ReturnsInHanded {} Try.checked os 4 .any (Rows.ethBackSpec.pre6 enc Try.prog Try.f4 Rows.ethBackRow.domain false) (Rows.ethBackSpec.post enc Try.prog Try.f4 false true false false) := by
  refine returnsInHanded_of_change_sized (C := Try.checked) own started (by kernel_rfl) Try.func4
    (ChangeSpec.witness6 (enc := enc) (C := Try.checked) false ⟨#[], #[.agg #[.int .u8 0, .int .u8 0, .int .u8 0, .int .u8 0, .int .u8 0, .int .u8 0, .int .u8 0, .int .u8 0, .int .u8 0, .int .u8 0, .int .u8 0, .int .u8 0, .int .i64 0, .int .i64 0, .string ByteArray.empty], .string ByteArray.empty, .agg #[.int .u8 0, .int .u8 0, .int .u8 0, .int .u8 0, .int .u8 0, .int .u8 0]], []⟩ 8 (by kernel_rfl) (by kernel_rfl) (by kernel_rfl) (by kernel_rfl)) ?_
  intro W base args ds gs before hval0 hW hcnd hsz0 _
  have hval : ∀ (j : Nat) t v, Try.f4.params[j]? = some t → args[j]? = some v → Value.okWide Try.prog W .any base t v := hval0
  have hsz : (DataW.weightsEach Try.prog (Try.f4.params.toList ++ Rows.ethBackSpec.plain.varTypes Try.prog) (ds ++ gs)).all (· ≤ reachBytes) = true := hsz0
  have hW' := hW
  obtain ⟨p, q, hA0, hV, rfl, hfz, hnd⟩ := hW
  have hA : DataW.TrodAll enc Try.prog W 0 (fun _ => true) true Try.f4.params.toList args.toList ds p := hA0
  rw [Try.params4] at hA hval hsz
  obtain ⟨v0, vs0, d0, ds0, p0, q0, hargs, rfl, rfl, h0, r0⟩ := trodAll_cons hA
  obtain ⟨v1, vs1, d1, ds1, p1, q1, rfl, rfl, rfl, h1, r1⟩ := trodAll_cons r0
  obtain ⟨v2, vs2, d2, ds2, p2, q2, rfl, rfl, rfl, h2, r2⟩ := trodAll_cons r1
  obtain ⟨rfl, rfl, rfl⟩ := trodAll_nil r2
  obtain rfl : args = #[v0, v1, v2] := by cases args; simp_all
  obtain ⟨rfl, rfl⟩ := trodVars_none hV
  have k0 := h0
  have lt0 : ∀ x ∈ p0, x.block < W.heap.size := by obtain ⟨m, hm⟩ := k0; exact DataW.trod_lt m _ _ _ hm
  have k1 := h1
  have lt1 : ∀ x ∈ p1, x.block < W.heap.size := by obtain ⟨m, hm⟩ := k1; exact DataW.trod_lt m _ _ _ hm
  have k2 := h2
  have lt2 : ∀ x ∈ p2, x.block < W.heap.size := by obtain ⟨m, hm⟩ := k2; exact DataW.trod_lt m _ _ _ hm
  obtain ⟨t0, t1, t2, t3, t4, t5, f0, f1, f2, f3, f4, f5, vl, y, s0, rfl, _, _, ws⟩ := open_frame (hval 0 25 v0 rfl rfl) h0
  obtain ⟨a1, rfl, rfl, rfl, w1⟩ := open_string Try.underlying9 (hval 1 9 v1 rfl rfl) h1
  obtain ⟨m0, m1, m2, m3, m4, m5, rfl⟩ := open_mac (hval 2 23 v2 rfl rfl) h2
  have sz1 : a1.size ≤ 140737488351232 := by
    have hx := sized_string hsz (j := 1) (t := 9) rfl rfl
    simpa [reachBytes] using hx
  clear hA0 hval0 hsz0 hsz
  refine (walk t0 t1 t2 t3 t4 t5 f0 f1 f2 f3 f4 f5 m0 m1 m2 m3 m4 m5 vl y s0 a1 W (by simpa [maxLen] using ws) sz1).mono fun e W' ⟨he, bel⟩ => ?_
  subst he
  exact ⟨_, rfl, _, _, _, [], _, [], hW', trodAll_mk1 (shut_bool Try.underlying4 _), (trodAll_cons_mk (Below.trod laidOut (by kernel_rfl) (of_decide_eq_true (by kernel_rfl)) k0 bel lt0) (trodAll_cons_mk (Below.trod laidOut (by kernel_rfl) (of_decide_eq_true (by kernel_rfl)) k1 bel lt1) (trodAll_cons_mk (Below.trod laidOut (by kernel_rfl) (of_decide_eq_true (by kernel_rfl)) k2 bel lt2) trodAll_mk0))), rfl, bel.frame _, fun h => by cases h⟩

theorem over : Rows.ethBackRow.holds Try.pinned (OpenSpec.ofChange Rows.ethBackSpec) :=
  OpenClaim.holds_of_wide 4 Try.f4 rfl rfl rfl rfl rfl rfl rfl ⟨rfl, rfl, rfl, rfl, rfl⟩ rfl rfl rfl rfl rfl (by kernel_rfl) Try.func4 (by kernel_rfl)
    (of_decide_eq_true (by kernel_rfl)) (by unfold Func.isWrapper; first | (rw [if_pos (by decide +kernel)]; kernel_rfl) | (rw [if_neg (by decide +kernel)]; exact ⟨rfl, rfl⟩))
    (fun os started H enc _ => lifted os started H enc)

theorem proved : Rows.EthBackSaid :=
  over
end Go.Proofs.Ytolhmmnaohadcaa.ethBack
