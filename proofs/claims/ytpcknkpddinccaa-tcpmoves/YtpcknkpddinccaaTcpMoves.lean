/- For every segment g and numbers seq, ack the law TcpMoves returns true: tcp.Mss and tcp.Move answer what the document's own package says; there are no conditions. -/
import Derived.Test.YtpcknkpddinccaaTcpMovedR
import Derived.Test.YtpcknkpddinccaaTcpSame
import Derived.Test.YtpcknkpddinccaaArgsTcp
import Derived.Test.YtpcknkpddinccaaTold
import Derived.Test.YtpcknkpddinccaaRows
import Derived.WalkKit
import Derived.ProofKit
import Derived.OpenShut
import Derived.ShutString
import Derived.ChangeOld
import Derived.Below
import Derived.SizedLaws
namespace Go.Proofs.Ytpcknkpddinccaa.tcpMoves
open Go.ChangeShapes Go.WideShapes Go.ChangeAt Go.RowKit
open Go.ChangeMaps (open_string shut_string)
set_option linter.unusedVariables false

theorem own : ownKnob Try.prog.godebug = none := by kernel_rfl
theorem laidOut : laidOutB Try.prog = true := by kernel_rfl

open Go.BigFrame Go.Proofs.Ytpcknkpddinccaa Go.Proofs.Ytpcknkpddinccaa.boxes Go.Proofs.Ytpcknkpddinccaa.tcb Go.Proofs.Ytpcknkpddinccaa.rwr Go.Proofs.Ytpcknkpddinccaa.tcm Go.Proofs.Ytpcknkpddinccaa.tcw Go.Proofs.Ytpcknkpddinccaa.tcr Go.Proofs.Ytpcknkpddinccaa.tcx Go.Proofs.Ytpcknkpddinccaa.tcs Go.Proofs.Ytpcknkpddinccaa.argr Go.Proofs.Ytpcknkpddinccaa.argt
set_option maxRecDepth 20000 in
set_option maxHeartbeats 40000000 in
theorem walk (h : Sh) (v : Value) (os : List Opt) (a b : Int) (w : World) (hr : Rd OK w v os) (ha : h.Adr) (a0 : 0 ≤ a) (a1 : a ≤ 4294967295) (b0 : 0 ≤ b) (b1 : b ≤ 4294967295) (hb : os.length * 24 ≤ 140737488351232) (hz : ∀ o ∈ os, o.d.size ≤ 140737488351232) :
    Calls Try.prog 3 #[.agg (h.cells v), .int .u32 a, .int .u32 b] w fun e w' => e = .returned (.bool true) ∧ Below w.heap.size w w' := by
  have C1 := fun u hu => mss_any h v os u hu (fun o ho => Nat.le_trans (hz o ho) (by omega))
  have C2 := fun u hu => mssOf_any h v os u hu (fun o ho => Nat.le_trans (hz o ho) (by omega))
  have C3 := fun u hu => move_any h v os a b u hu (by omega) hz
  have C4 := fun u hu => moved_any h v os a b u ha a0 a1 b0 b1 hu hb hz
  have C5 := fun u x y => same_any (mvh h a b) x y (mvs h os b) u
  generalize mss os = M at C1 C2
  obtain ⟨M1, M2⟩ := M
  generalize mvh h a b = R at *
  generalize mvs h os b = S at *
  have F0 := Blk.new w (h.cells v) 25
  have d0 := (Below.refl w.heap.size w).alloc (Nat.le_refl _) (.cells (h.cells v) 25)
  have r0 := hr.below d0
  obtain ⟨sa, sc, rfl⟩ := hr.form
  clear hr hb hz ha
  go_enter Try.func3, Try.ntmps3
  go_wp2_with (refine blk_load _ rfl 25 _ rfl w.heap.size rfl _ _ F0 _ Try.underlying25 rfl 9 sg_info rfl ?_)
  refine (C1 _ r0).mono ?_
  rintro e w1 ⟨rfl, h1⟩
  have F1 := F0.below h1 F0.lt
  have d1 := d0.trans (h1.mono d0.size)
  have r1 := r0.below h1
  clear C1 F0 d0 r0 h1
  go_wp2_with (refine blk_load _ rfl 25 _ rfl w.heap.size rfl _ _ F1 _ Try.underlying25 rfl 9 sg_info rfl ?_)
  refine (C2 _ r1).mono ?_
  rintro e w2 ⟨rfl, h2⟩
  have F2 := F1.below h2 F1.lt
  have d2 := d1.trans (h2.mono d1.size)
  have r2 := r1.below h2
  clear C2 F1 d1 r1 h2
  have C3' : ∀ u, Rd OK u (.slice sa os.length sc) os → Calls Try.prog 7 #[.agg (h.cells (.slice sa os.length sc)), .int .u32 a, .int .u32 b] u fun e w' => ∃ sa3 sc3, e = .returned (.agg (R.cells (.slice sa3 S.length sc3))) ∧ Rd OK w' (.slice sa3 S.length sc3) S ∧ Below u.heap.size u w' := by
    intro u hu
    refine (C3 u hu).mono ?_
    rintro e w' ⟨v', rfl, o, hb⟩
    obtain ⟨sa3, sc3, rfl⟩ := (Own.rd o).form
    exact ⟨sa3, sc3, rfl, Own.rd o, hb⟩
  have C4' : ∀ u, Rd OK u (.slice sa os.length sc) os → Calls Try.prog 8 #[.agg (h.cells (.slice sa os.length sc)), .int .u32 a, .int .u32 b] u fun e w' => ∃ sa3 sc3, e = .returned (.agg (R.cells (.slice sa3 S.length sc3))) ∧ Rd OK w' (.slice sa3 S.length sc3) S ∧ Below u.heap.size u w' := by
    intro u hu
    refine (C4 u hu).mono ?_
    rintro e w' ⟨v', rfl, o, hb⟩
    obtain ⟨sa3, sc3, rfl⟩ := o.form
    exact ⟨sa3, sc3, rfl, o, hb⟩
  clear C3 C4
  generalize os.length = n at *
  go_upto_region 3 with fail
  have ne : Nonempty (spc.In (ab.Ab w2)) := ⟨⟨_, ab.Ab.refl w2⟩⟩
  have cm : ∀ (x : spc.In (ab.Ab w2)) k, x.W.cell? ⟨w.heap.size, k, none⟩ = (h.cells (.slice sa n sc))[k]? := fun x k => (Below.cell x.h (p := ⟨w.heap.size, k, none⟩) F2.lt).trans (F2.cell k)
  refine' spc.wp_region_told_g [(12, undef), (16, undef), (17, .bool true)] [(12, 33), (16, 37)]
    (fun k v W => ∃ sa sc, v = .agg (R.cells (.slice sa S.length sc)) ∧ Rd OK W (.slice sa S.length sc) S) (ab.Ab w2) (fun W W' => Below W.heap.size W W') (by kernel_rfl) (by kernel_rfl) (ab.Ab.drew w2)
    (fun k v W W' hb h => (let ⟨sa, sc, e, r⟩ := h; ⟨sa, sc, e, r.below hb⟩)) (by simp only [spc.rep, List.lookup, Nat.zero_add, Nat.reduceAdd, Nat.reduceBEq]; exact rfl) ?_
  repeat (go_big_quiet_step (fail))
  refine wpQuiet_nil ⟨?_, ?_, ?_⟩
  · simp only [List.forall_mem_cons, List.not_mem_nil, false_imp_iff, implies_true, and_true]
    exact ⟨by rintro _ ⟨⟩; rfl, by rintro _ ⟨⟩; rfl⟩
  · simp only [List.forall_mem_cons, List.not_mem_nil, false_imp_iff, implies_true, and_true]
    refine ⟨?_, ?_, ?_⟩
    · rintro _ ⟨⟩ x u hC - -
      refine told.call3 7 _ _ _ _ _ _ _ rfl (by intro args w; simp [go_sem]) rfl rfl rfl ((C3' u (r2.below hC)).mono ?_)
      rintro e w' ⟨sa3, sc3, rfl, hr3, hb⟩
      refine ⟨_, rfl, Below.trans hC (hb.mono (Below.size hC)), hb, ?_⟩
      rw [if_pos (by decide)]
      exact ⟨sa3, sc3, rfl, hr3⟩
    · rintro _ ⟨⟩ x u hC - -
      refine told.call3 8 _ _ _ _ _ _ _ rfl (by intro args w; simp [go_sem]) rfl rfl rfl ((C4' u (r2.below hC)).mono ?_)
      rintro e w' ⟨sa3, sc3, rfl, hr3, hb⟩
      refine ⟨_, rfl, Below.trans hC (hb.mono (Below.size hC)), hb, ?_⟩
      rw [if_pos (by decide)]
      exact ⟨sa3, sc3, rfl, hr3⟩
    · rintro _ ⟨⟩ x u hC hS -
      obtain ⟨sa4, sc4, e4, r4⟩ := hS (12, 33) (by simp) (by simp [Oper.looksAt, Op.operands, Call.operands])
      obtain ⟨sa5, sc5, e5, r5⟩ := hS (16, 37) (by simp) (by simp [Oper.looksAt, Op.operands, Call.operands])
      exact told.call2 6 _ _ _ _ _ rfl (by intro args w; simp [go_sem]) e4 e5 ((C5 u _ _ r4 r5).mono fun e w3 ⟨he, hb⟩ => ⟨_, he, Below.trans hC (hb.mono (Below.size hC)), hb, rfl⟩)
  intro x W hC hS
  have d6 := d2.trans (Below.mono hC d2.size)
  clear hS C3' C4' C5 ne cm r2 d2 F2 hC
  simp only [spc.jn, Act.put, List.setIfInBounds_toArray, List.set_cons_succ, List.set_cons_zero]
  go_wp2_with fail
  go_ret
  exact ⟨rfl, d6⟩
set_option maxRecDepth 100000 in
theorem lifted (os : Os) (started : os.Started) (H : Type) (enc : TypeId × Value → H) :
    ReturnsInHanded {} Try.checked os 3 .any (Rows.tcpMovesSpec.pre6 enc Try.prog Try.f3 Rows.tcpMovesRow.domain false) (Rows.tcpMovesSpec.post enc Try.prog Try.f3 false true false false) := by
  refine returnsInHanded_of_change_sized (C := Try.checked) own started (by kernel_rfl) Try.func3
    (ChangeSpec.witness6 (enc := enc) (C := Try.checked) false ⟨#[], #[.agg #[.int .i64 0, .int .i64 0, .int .u32 0, .int .u32 0, .int .i64 0, .int .i64 0, .int .i64 0, .slice none 0 0, .string ByteArray.empty], .int .u32 0, .int .u32 0], []⟩ 8 (by kernel_rfl) (by kernel_rfl) (by kernel_rfl) (by kernel_rfl)) ?_
  intro W base args ds gs before hval0 hW hcnd hsz0 _
  have hval : ∀ (j : Nat) t v, Try.f3.params[j]? = some t → args[j]? = some v → Value.okWide Try.prog W .any base t v := hval0
  have hsz : (DataW.weightsEach Try.prog (Try.f3.params.toList ++ Rows.tcpMovesSpec.plain.varTypes Try.prog) (ds ++ gs)).all (· ≤ reachBytes) = true := hsz0
  have hW' := hW
  obtain ⟨p, q, hA0, hV, rfl, hfz, hnd⟩ := hW
  have hA : DataW.TrodAll enc Try.prog W 0 (fun _ => true) true Try.f3.params.toList args.toList ds p := hA0
  rw [Try.params3] at hA hval hsz
  obtain ⟨v0, vs0, d0, ds0, p0, q0, hargs, rfl, rfl, h0, r0⟩ := trodAll_cons hA
  obtain ⟨v1, vs1, d1, ds1, p1, q1, rfl, rfl, rfl, h1, r1⟩ := trodAll_cons r0
  obtain ⟨v2, vs2, d2, ds2, p2, q2, rfl, rfl, rfl, h2, r2⟩ := trodAll_cons r1
  obtain ⟨rfl, rfl, rfl⟩ := trodAll_nil r2
  obtain rfl : args = #[v0, v1, v2] := by cases args; simp_all
  obtain ⟨rfl, rfl⟩ := trodVars_none hV
  have k0 := h0
  have lt0 : ∀ x ∈ p0, x.block < W.heap.size := by obtain ⟨m, hm⟩ := k0; exact DataW.trod_lt m _ _ _ hm
  have k1 := h1
  have lt1 : ∀ x ∈ p1, x.block < W.heap.size := by obtain ⟨m, hm⟩ := k1; exact DataW.trod_lt m _ _ _ hm
  have k2 := h2
  have lt2 : ∀ x ∈ p2, x.block < W.heap.size := by obtain ⟨m, hm⟩ := k2; exact DataW.trod_lt m _ _ _ hm
  have s0 := hval 0 25 v0 rfl rfl
  have wsz := weighed hsz (j := 0) (t := 25) rfl rfl
  obtain ⟨g, u, os, rfl, hr, ha, gz, ol, oz⟩ := open_segment reachBytes s0 h0 wsz
  obtain ⟨a, rfl, rfl, rfl, wa⟩ := open_int Try.underlying22 (hval 1 22 v1 rfl rfl) h1
  obtain ⟨b, rfl, rfl, rfl, wb⟩ := open_int Try.underlying22 (hval 2 22 v2 rfl rfl) h2
  have xa := bounds_u32 wa
  have xb := bounds_u32 wb
  simp only [reachBytes] at ol oz
  clear hA0 hval0 hsz0 hsz
  refine (walk g u os a b W hr ha xa.1 xa.2 xb.1 xb.2 ol oz).mono fun e W' ⟨he, bel⟩ => ?_
  subst he
  exact ⟨_, rfl, _, _, _, [], _, [], hW', trodAll_mk1 (shut_bool Try.underlying4 _), (trodAll_cons_mk (Below.trod laidOut (by kernel_rfl) (of_decide_eq_true (by kernel_rfl)) k0 bel lt0) (trodAll_cons_mk (Below.trod laidOut (by kernel_rfl) (of_decide_eq_true (by kernel_rfl)) k1 bel lt1) (trodAll_cons_mk (Below.trod laidOut (by kernel_rfl) (of_decide_eq_true (by kernel_rfl)) k2 bel lt2) trodAll_mk0))), rfl, bel.frame _, fun h => by cases h⟩

theorem over : Rows.tcpMovesRow.holds Try.pinned (OpenSpec.ofChange Rows.tcpMovesSpec) :=
  OpenClaim.holds_of_wide 3 Try.f3 rfl rfl rfl rfl rfl rfl rfl ⟨rfl, rfl, rfl, rfl, rfl⟩ rfl rfl rfl rfl rfl (by kernel_rfl) Try.func3 (by kernel_rfl)
    (of_decide_eq_true (by kernel_rfl)) (by unfold Func.isWrapper; first | (rw [if_pos (by decide +kernel)]; kernel_rfl) | (rw [if_neg (by decide +kernel)]; exact ⟨rfl, rfl⟩))
    (fun os started H enc _ => lifted os started H enc)

theorem proved : Rows.TcpMovesSaid :=
  over
end Go.Proofs.Ytpcknkpddinccaa.tcpMoves
