/- The walk through custlaw.TableNews. -/
import Derived.Test.YtmnmjmbfnecmoaaTabRef2
import Derived.Test.YtmnmjmbfnecmoaaTabKeep
import Derived.Test.YtmnmjmbfnecmoaaTold
namespace Go.Proofs.Ytmnmjmbfnecmoaa.tni
open Go.ChangeShapes Go.WideShapes Go.ChangeAt Go.RowKit Go.BigFrame
open Go.Proofs.Ytmnmjmbfnecmoaa Go.Proofs.Ytmnmjmbfnecmoaa.tm Go.Proofs.Ytmnmjmbfnecmoaa.tb Go.Proofs.Ytmnmjmbfnecmoaa.ti Go.Proofs.Ytmnmjmbfnecmoaa.tsh Go.Proofs.Ytmnmjmbfnecmoaa.tc Go.Proofs.Ytmnmjmbfnecmoaa.tg Go.Proofs.Ytmnmjmbfnecmoaa.tk Go.Proofs.Ytmnmjmbfnecmoaa.rh Go.Proofs.Ytmnmjmbfnecmoaa.boxes Go.Proofs.Ytmnmjmbfnecmoaa.rwr
open Go.Proofs.Ytmnmjmbfnecmoaa.rws (Knd Own)

/-- a row of zeros that is made, told -/
theorem make_told {o : Oper} {a : Act} {w : World} {R : Value → World → Prop} (x c : Operand) (n : Nat) (hop : o.op = .makeSlice 22 x c) (hl : a.eval x = .int .i64 (n : Int)) (hc : a.eval c = .int .i64 (n : Int)) (hn : n ≤ 64)
    (h : ∀ w', Own SK w' w.heap.size (.slice (some ⟨w.heap.size, 0, none⟩) n n) (List.replicate n z0) → Below w.heap.size w w' → R (.slice (some ⟨w.heap.size, 0, none⟩) n n) w') : spc.yieldsTo Try.prog o a w R := by
  obtain ⟨i0, hi, hz0, hz1, hz2⟩ := info_parts SK.info
  obtain ⟨w', hrun, r1, r2⟩ := run_make_full (P := Try.prog) w w.heap.size SK.s SK.e i0 SK.z SK.k SK.hs hi hz0 hz1 .i64 .i64 n (by rw [hz2]; show 24 * n ≤ _; omega) (by unfold maxLen; omega) (Nat.le_refl _)
  have hK : Own SK w' w.heap.size (.slice (some ⟨w.heap.size, 0, none⟩) n n) (List.replicate n z0) := by
    have hs : SK.z.cells.size = SK.k := SK.hz
    unfold rws.Own
    rw [List.length_replicate]
    have e : (madeCells SK.z.cells (n * SK.k)).toList = SK.cs (List.replicate n z0) := by
      apply List.ext_getElem?
      intro t
      by_cases ht : t < n * SK.k
      · have hq : t / SK.k < n := by
          rw [Nat.div_lt_iff_lt_mul SK.pos]; exact ht
        have hr : t % SK.k < SK.k := Nat.mod_lt _ SK.pos
        have hd : t / SK.k * SK.k + t % SK.k = t := by rw [Nat.mul_comm]; exact Nat.div_add_mod t SK.k
        have := rws.cs_at SK (List.replicate n z0) (t / SK.k) z0 (by rw [List.getElem?_replicate, if_pos hq]) (t % SK.k) hr
        rw [hd] at this
        rw [this, show SK.enc z0 = SK.z.cells from rfl]
        simp [madeCells, ht, hs]
        rw [Array.getElem?_eq_getElem (by omega)]
        simp [hs, hr]
      · rw [List.getElem?_eq_none (by simp [size_madeCells]; omega), List.getElem?_eq_none (by rw [rws.cs_length, List.length_replicate]; omega)]
    rw [← e]
    exact r1
  have hb : Below w.heap.size w w' := (Below.refl _ _).grown r2 (Nat.le_refl _) (by simp)
  have hrun' : (Instr.makeSlice 22 (.int .i64 (n : Int)) (.int .i64 (n : Int))).run Try.prog w = .ok (.slice (some ⟨w.heap.size, 0, none⟩) n n) w' := hrun
  have hh := h w' hK hb
  unfold spc.yieldsTo
  generalize a.eval = E at *
  simp [execOp, hop, hl, hc, hrun', go_sem]
  exact hh
theorem build_told {o : Oper} {a : Act} {w : World} {R : Value → World → Prop} (x : Operand) (sa : Option Addr) (n sc : Nat) (hop : o.op = .build 24 #[(0, x)]) (he : a.eval x = .slice sa n sc) (h : R (.agg #[.slice sa n sc]) w) : spc.yieldsTo Try.prog o a w R := by
  have u0 := Try.underlying24
  have z0 := Try.zeroValue24
  unfold spc.yieldsTo
  generalize a.eval = E at *
  simp [execOp, hop, he, go_sem]
  exact h
set_option maxRecDepth 20000 in
set_option maxHeartbeats 8000000 in
theorem walk (v : Value) (l : List St) (b : Int) (k : Nat) (w : World) (hr : Rd SK w v l) (hk : Ky l) (hkk : k < 18446744073709551616) :
    Calls Try.prog 3 #[.agg #[v], .int .i64 b, .int .u64 (k : Int)] w fun e w' => e = .returned (.bool true) ∧ Below w.heap.size w w' := by
  have C1 := fun u hu => check_any v l u hu
  have C2 := fun u hu => rr.right_any v l u hu hk
  generalize terr l = E at *
  have F0 := Blk.new w #[v] 24
  have d0 := (Below.refl w.heap.size w).alloc (Nat.le_refl _) (.cells #[v] 24)
  have r0 := hr.below d0
  obtain ⟨sa, sc, rfl⟩ := hr.form
  clear hr hk
  generalize hn : l.length = n at *
  clear hn
  by_cases hb : rb b = true
  · obtain ⟨B, rfl⟩ : ∃ B : Nat, b = (B : Int) := ⟨b.toNat, by unfold rb at hb; simp at hb; omega⟩
    have hB : 1 ≤ B ∧ B ≤ 6 := by unfold rb at hb; simp at hb; omega
    have CH := fun u => home_ok B k u hB.1 hB.2
    have CN := fun u => new_ok B u hB.1 hB.2
    have CB := fun u => between_any (B : Int) 1 6 u
    have CO := fun u => homeOf_any B k u hB.1 hB.2 hkk
    have e1 : (decide (1 ≤ (B : Int)) && decide ((B : Int) ≤ 6)) = true := hb
    rw [e1] at CB
    have hN : 2 ≤ 2 ^ B ∧ 2 ^ B ≤ 64 := by
      have : B = 1 ∨ B = 2 ∨ B = 3 ∨ B = 4 ∨ B = 5 ∨ B = 6 := by omega
      rcases this with rfl | rfl | rfl | rfl | rfl | rfl <;> decide
    have hsh : IntKind.i64.wrap ((2 : Int) ^ B) = ((2 ^ B : Nat) : Int) := by
      rw [IntKind.wrap_i64]
      have : ((2 : Int) ^ B) = ((2 ^ B : Nat) : Int) := by rw [Int.natCast_pow]; rfl
      rw [this]; omega
    have HSH : Hid (IntKind.i64.wrap ((2 : Int) ^ B) = ((2 ^ B : Nat) : Int)) := hsh
    have h64 : (B : Int) ≤ 64 := by omega
    have S1 := fun u x y => same_any x y (List.replicate (2 ^ B) z0) u
    have MT : ∀ (M : Nat), M ≤ 64 → ∀ (o : Oper) (a : Act) (w : World) (R : Value → World → Prop) (x c : Operand), o.op = .makeSlice 22 x c → a.eval x = .int .i64 (M : Int) → a.eval c = .int .i64 (M : Int) → (∀ w', Rd SK w' (.slice (some ⟨w.heap.size, 0, none⟩) M M) (List.replicate M z0) → Below w.heap.size w w' → R (.slice (some ⟨w.heap.size, 0, none⟩) M M) w') → spc.yieldsTo Try.prog o a w R :=
      fun M hM o a w R x c h1 h2 h3 h4 => make_told x c M h1 h2 h3 hM fun w' ho hb => h4 w' (Own.rd ho) hb
    have MTN := MT (2 ^ B) hN.2
    have hlen : (List.replicate (2 ^ B) z0).length = 2 ^ B := List.length_replicate
    clear hb e1 hsh MT
    generalize List.replicate (2 ^ B) z0 = Z at *
    generalize 2 ^ B = M at *
    generalize hmb B k = R at *
    go_enter Try.func3, Try.ntmps3
    go_wp2_with fail
    refine (CH _).mono ?_
    rintro e w1 ⟨rfl, rfl⟩
    go_wp2_with fail
    refine (CN _).mono ?_
    rintro e w2 ⟨v2, rfl, o2, l2⟩
    have a2 := Own.rd o2
    obtain ⟨sa1, sc1, e2⟩ := a2.form
    rw [hlen] at e2
    subst e2
    have F2 := F0.below l2 F0.lt
    have d2 := d0.trans (l2.mono d0.size)
    have r2 := r0.below l2
    have dA := (Below.refl w2.heap.size w2).alloc (Nat.le_refl _) (.cells Z1 24)
    clear F0 d0 r0 l2 CH CN o2 hlen
    go_upto_region 3 with (refine blk_store _ rfl 24 _ _ rfl w2.heap.size _ rfl rfl _ _ (Blk.new w2 Z1 24) 1 tb_info rfl rfl (tb_one _ _ _) ?_; intro w3 X3 p3)
    have l3 := p3.below dA (Nat.le_refl _)
    have F3 := F2.below l3 F2.lt
    have d3 := d2.trans (l3.mono d2.size)
    have r3 := r2.below l3
    have a3 := a2.below l3
    clear dA p3 F2 d2 r2 l3 a2
    generalize w2.heap.size = X at *
    go_wp2_with fail
    refine (CB _).mono ?_
    rintro e w3 ⟨rfl, rfl⟩
    go_upto_region 5 with fail
    have hsh := HSH.out
    have ne : Nonempty (spc.In (ab.Ab w3)) := ⟨⟨_, ab.Ab.refl w3⟩⟩
    have cf : ∀ (x : spc.In (ab.Ab w3)) q, x.W.cell? ⟨w.heap.size, q, none⟩ = (#[Value.slice sa n sc])[q]? := fun x q => (Below.cell x.h (p := ⟨w.heap.size, q, none⟩) F3.lt).trans (F3.cell q)
    have cx : ∀ (x : spc.In (ab.Ab w3)) q, x.W.cell? ⟨X, q, none⟩ = (#[Value.slice sa1 M sc1])[q]? := fun x q => (Below.cell x.h (p := ⟨X, q, none⟩) X3.lt).trans (X3.cell q)
    refine' spc.wp_region_told_g [(3, .int .i64 (R : Int)), (17, undef), (18, undef), (19, .bool true), (23, .int .i64 E), (25, .int .i64 E)] [(17, 65), (18, 66)]
      (fun q v W => ∃ ta tc, (q = 17 ∧ v = .slice ta M tc ∨ q = 18 ∧ v = .agg #[.slice ta M tc]) ∧ Rd SK W (.slice ta M tc) Z) (ab.Ab w3) (fun W W' => Below W.heap.size W W') (by kernel_rfl) (by kernel_rfl) (ab.Ab.drew w3)
      (fun q v W W' hb h => (let ⟨ta, tc, e, r⟩ := h; ⟨ta, tc, e, r.below hb⟩)) (by simp only [spc.rep, List.lookup, Nat.zero_add, Nat.reduceAdd, Nat.reduceBEq]; exact rfl) ?_
    repeat (go_big_quiet_step (fail))
    refine wpQuiet_nil ⟨?_, ?_, ?_⟩
    · simp only [List.forall_mem_cons, List.not_mem_nil, false_imp_iff, implies_true, and_true]
      exact ⟨by rintro _ ⟨⟩; rfl, by rintro _ ⟨⟩; rfl⟩
    · simp only [List.forall_mem_cons, List.not_mem_nil, false_imp_iff, implies_true, and_true]
      refine ⟨?_, ?_, ?_, ?_, ?_, ?_⟩
      · rintro _ ⟨⟩ x u hC - -
        exact told.call2 14 _ _ _ _ _ rfl (by intro args w; simp [go_sem]) rfl rfl ((CO u).mono fun e w3 ⟨he, hb⟩ => ⟨_, he, by rw [hb]; exact hC, by rw [hb]; exact Below.refl _ _, rfl⟩)
      · rintro _ ⟨⟩ x u hC - -
        refine MTN _ _ _ _ _ _ rfl rfl rfl ?_
        intro w' hr' hb
        refine ⟨Below.trans hC (hb.mono (Below.size hC)), hb, ?_⟩
        rw [if_pos (by decide)]
        exact ⟨_, _, Or.inl ⟨rfl, rfl⟩, hr'⟩
      · rintro _ ⟨⟩ x u hC hS -
        obtain ⟨ta, tc, e4, r4⟩ := hS (17, 65) (by simp) (by simp [Oper.looksAt, Op.operands])
        have e4' := e4.resolve_right (fun h => by cases h.1)
        refine build_told _ ta M tc rfl e4'.2 ?_
        refine ⟨hC, Below.refl _ _, ?_⟩
        rw [if_pos (by decide)]
        exact ⟨_, _, Or.inr ⟨rfl, rfl⟩, r4⟩
      · rintro _ ⟨⟩ x u hC hS -
        obtain ⟨ta, tc, e4, r4⟩ := hS (18, 66) (by simp) (by simp [Oper.looksAt, Op.operands, Call.operands])
        have e4' := e4.resolve_left (fun h => by cases h.1)
        exact told.call2 15 _ _ _ _ _ rfl (by intro args w; simp [go_sem]) rfl e4'.2 ((S1 u _ _ (a3.below hC) r4).mono fun e w3 ⟨he, hb⟩ => ⟨_, he, Below.trans hC (hb.mono (Below.size hC)), hb, rfl⟩)
      · rintro _ ⟨⟩ x u hC - -
        exact told.call1 12 _ _ _ rfl (by intro args w; simp [go_sem]) rfl ((C1 u (r3.below hC)).mono fun e w3 ⟨he, hb⟩ => ⟨_, he, Below.trans hC (hb.mono (Below.size hC)), hb, rfl⟩)
      · rintro _ ⟨⟩ x u hC - -
        exact told.call1 13 _ _ _ rfl (by intro args w; simp [go_sem]) rfl ((C2 u (r3.below hC)).mono fun e w3 ⟨he, hb⟩ => ⟨_, he, Below.trans hC (hb.mono (Below.size hC)), hb, rfl⟩)
    intro x W hC hS
    have d6 := d3.trans (Below.mono hC d3.size)
    clear hS ne cf cx r3 a3 d3 F3 X3 hC C1 C2 S1 MTN CO
    simp only [spc.jn, Act.put, List.setIfInBounds_toArray, List.set_cons_succ, List.set_cons_zero]
    go_wp2_with fail
    go_ret
    exact ⟨rfl, d6⟩
  · have hb' : rb b = false := by simpa using hb
    have CH := fun u => home_no b (k : Int) u hb'
    have CN := fun u => new_no b u hb'
    have CB := fun u => between_any b 1 6 u
    have e1 : (decide (1 ≤ b) && decide (b ≤ 6)) = false := hb'
    rw [e1] at CB
    clear hb hb' e1
    go_enter Try.func3, Try.ntmps3
    go_wp2_with fail
    refine (CH _).mono ?_
    rintro e w1 ⟨rfl, rfl⟩
    go_wp2_with fail
    refine (CN _).mono ?_
    rintro e w2 ⟨rfl, l2⟩
    have F2 := F0.below l2 F0.lt
    have d2 := d0.trans (l2.mono d0.size)
    have r2 := r0.below l2
    have dA := (Below.refl w2.heap.size w2).alloc (Nat.le_refl _) (.cells Z1 24)
    clear F0 d0 r0 l2 CH CN
    go_upto_region 3 with (refine blk_store _ rfl 24 _ _ rfl w2.heap.size _ rfl rfl _ _ (Blk.new w2 Z1 24) 1 tb_info rfl rfl (tb_one _ _ _) ?_; intro w3 X3 p3)
    have l3 := p3.below dA (Nat.le_refl _)
    have F3 := F2.below l3 F2.lt
    have d3 := d2.trans (l3.mono d2.size)
    have r3 := r2.below l3
    clear dA p3 F2 d2 r2 l3
    generalize w2.heap.size = X at *
    go_wp2_with fail
    refine (CB _).mono ?_
    rintro e w3 ⟨rfl, rfl⟩
    go_upto_region 4 with fail
    have nn := ab.ne w3
    have ca := ab.cells F3
    have cb := ab.cells X3
    refine ab.region (by kernel_rfl) (by kernel_rfl) ?_
    repeat (go_big_quiet_step (first | (go_at_call 12; exact ab.call (C1 _ (r3.below (cls.In.h _)))) | (go_at_call 13; exact ab.call (C2 _ (r3.below (cls.In.h _))))))
    refine wpQuiet_nil ?_
    intro _ hx
    obtain ⟨x, rfl⟩ := hx
    have d4 := d3.trans (Below.mono x.h d3.size)
    go_wp2_with fail
    go_ret
    exact ⟨rfl, d4⟩
end Go.Proofs.Ytmnmjmbfnecmoaa.tni
