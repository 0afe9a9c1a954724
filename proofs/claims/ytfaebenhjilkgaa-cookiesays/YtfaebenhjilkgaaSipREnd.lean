/- What custref.SipEnd answers. -/
import Derived.Test.YtfaebenhjilkgaaSipEnd
import Derived.Test.YtfaebenhjilkgaaSipRMore
import Derived.Test.YtfaebenhjilkgaaRefBytes
namespace Go.Proofs.Ytfaebenhjilkgaa.sipx
open Go.ChangeShapes Go.WideShapes Go.ChangeAt Go.RowKit Go.BigFrame
open Go.Proofs.Ytfaebenhjilkgaa Go.Proofs.Ytfaebenhjilkgaa.sipm Go.Proofs.Ytfaebenhjilkgaa.boxes Go.Proofs.Ytfaebenhjilkgaa.sipb Go.Proofs.Ytfaebenhjilkgaa.sipt Go.Proofs.Ytfaebenhjilkgaa.sipn Go.Proofs.Ytfaebenhjilkgaa.sipf Go.Proofs.Ytfaebenhjilkgaa.sipr Go.Proofs.Ytfaebenhjilkgaa.sipo Go.Proofs.Ytfaebenhjilkgaa.sipe Go.Proofs.Ytfaebenhjilkgaa.refb Go.Proofs.Ytfaebenhjilkgaa.sipq
open Go.Proofs.Ytfaebenhjilkgaa.sumw (Qd Qd.refl Qd.drewN Qd.trans)

abbrev z7 : ByteArray := ⟨#[0, 0, 0, 0, 0, 0, 0]⟩
theorem last_list (p : ByteArray) (n : Int) (h7 : p.size ≤ 7) : ((p ++ z7).extract 0 7 ++ ⟨#[lb n]⟩).data.toList = tl p n := by
  have hl : p.data.toList.length = p.size := by simp
  rw [app_list]
  unfold tl
  congr 1
  simp only [ByteArray.data_extract, Array.toList_extract, List.extract, List.drop_zero, Nat.sub_zero]
  rw [app_list, List.take_append]
  rw [List.take_of_length_le (by omega), hl]
  congr 1
  have hz : z7.data.toList = List.replicate 7 0 := rfl
  rw [hz, List.take_replicate]
  congr 1
  omega
theorem last_size (p : ByteArray) (n : Int) : ((p ++ z7).extract 0 7 ++ ⟨#[lb n]⟩).size = 8 := by
  have h1 := sz_app p z7
  have h2 : z7.size = 7 := rfl
  rw [sz_app, ByteArray.size_extract]
  have h3 : (⟨#[lb n]⟩ : ByteArray).size = 1 := rfl
  omega
def spx (v : Value) (F : Array Value) (n : Nat) (W : World) : Prop := ∃ b, v = .slice (some ⟨b, 0, none⟩) n n ∧ Blk W b F 3
set_option maxHeartbeats 4000000 in
theorem rend_ok (v : V4) (p : ByteArray) (n : Int) (w : World) (h : okf p n = true) :
    Calls Try.prog 32 #[.agg (sc v p n)] w fun e w' => e = .returned (.tuple #[nm (fin v p n), .int .i64 0]) ∧ Below w.heap.size w w' := by
  have hp : 0 ≤ n ∧ p.size ≤ 7 := by
    unfold okf at h
    simp at h
    omega
  obtain ⟨h0, h7⟩ := hp
  have K0 : Blk (w.alloc (.cells (sc v p n) 56)) w.heap.size (sc v p n) 56 := Blk.new _ _ _
  have B0 := (Below.refl w.heap.size w).alloc (Nat.le_refl _) (.cells (sc v p n) 56)
  have zl := last_size p n
  have ll := last_list p n h7
  have zz := sz_app p z7
  have ht : n.tmod 256 = n % 256 := Int.tmod_eq_emod_of_nonneg h0
  go_enter Try.func32, Try.ntmps32
  go_upto_region 1 with fail
  refine gen (p := fun W => Code.wp _ _ _ _ W) K0 B0 ?_
  clear K0 B0
  intro W K B
  go_wp2_with (refine blk_load _ rfl 56 _ rfl _ rfl _ _ K _ Try.underlying56 rfl 6 sp_info rfl ?_)
  refine (right_any v p n _).mono ?_
  rintro e W1 ⟨rfl, q⟩
  replace K := K.below q K.lt
  replace B := B.trans (q.mono (Below.size B))
  rw [ef_t h]
  clear h q
  go_upto_region 4 with fail
  have ne : Nonempty (spc.In (ab.Ab W1)) := ⟨⟨_, ab.Ab.refl W1⟩⟩
  have ck : ∀ (x : spc.In (ab.Ab W1)) o, x.W.cell? ⟨w.heap.size, o, none⟩ = (sc v p n)[o]? := fun x o => (Below.cell x.h (p := ⟨_, o, none⟩) K.lt).trans (K.cell o)
  have hsz : (7 : Int) ≤ (p ++ z7).size := by rw [zz]; have : z7.size = 7 := rfl; omega
  have sl : ∀ y, (Instr.slice 9 (.string (p ++ z7)) none (some (.int .i64 7)) none).run Try.prog y = .ok (.string ((p ++ z7).extract 0 7)) y := fun y => by
    have := run_slice_string_h y 9 (p ++ z7) Try.underlying9 .i64 7 (by omega) (by omega)
    simpa using this
  refine' spc.wp_region_told_in [(7, undef), (8, .string ⟨#[lb n]⟩)] [(7, 19)] (fun k u W => k = 7 → spx u #[.int .i64 (n % 256)] 1 W) (ab.Ab W1) (fun W W' => Below W.heap.size W W') (by kernel_rfl) (by kernel_rfl) (ab.Ab.drew _) (fun k u W W' hb h hk => ?_) (by simp only [spc.rep, List.lookup, Nat.zero_add, Nat.reduceAdd, Nat.reduceBEq]; exact rfl) ?_
  · obtain ⟨b, e, A⟩ := h hk
    exact ⟨b, e, A.below hb A.lt⟩
  repeat (go_big_quiet_step (fail))
  refine wpQuiet_nil ⟨?_, ?_⟩
  · simp only [List.forall_mem_cons, List.not_mem_nil, false_imp_iff, implies_true, and_true]
    refine ⟨?_, ?_⟩
    · rintro _ ⟨⟩ x w2 hC - -
      simp [spc.yieldsTo, spc.jn, go_sem]
      exact ⟨Below.alloc hC (Below.size hC) _, (Below.refl _ _).alloc (Nat.le_refl _) _, _, rfl, Blk.new _ _ _⟩
    · rintro _ ⟨⟩ x w2 hC hS -
      have hS := hS (7, 19) (by simp) (by simp [Oper.looksAt, Op.operands, Call.operands]) rfl
      obtain ⟨b, e, A⟩ := hS
      simp only at e
      simp [spc.yieldsTo, spc.jn, go_sem, e]
      refine (bytes_any _ b 0 1 [n % 256] A.lt (by simp) ?_).mono fun e w3 ⟨he, hb⟩ => ⟨_, he, Below.trans hC (hb.mono (Below.size hC)), hb, ?_⟩
      · intro j hj
        match j, hj with
        | 0, _ => simp [A.cell]
      · simp [lb, b8]
  intro x W hC hS
  have K2 := K.below hC K.lt
  have B2 := B.trans (Below.mono hC (Below.size B))
  clear hS ck ne hsz sl K B hC ht
  simp only [spc.jn, Act.put, List.setIfInBounds_toArray, List.set_cons_succ, List.set_cons_zero]
  generalize (p ++ z7).extract 0 7 ++ (⟨#[lb n]⟩ : ByteArray) = E at *
  generalize x 7 = xv at *
  have C8 : ∀ y, Calls Try.prog 40 #[.string E] y fun e w' => e = .returned (nm (lw p n)) ∧ w' = y := fun y => by
    have := eight_any E y zl
    rw [ll] at this
    exact this
  clear zl ll zz
  obtain ⟨m, hm⟩ : ∃ m, m = lw p n := ⟨_, rfl⟩
  obtain ⟨u, hu⟩ : ∃ u, u = tk v m := ⟨_, rfl⟩
  have HF : Hid (fin v p n = let x := rnd (rnd (rnd (rnd ⟨u.a, u.b, uxo u.c 255, u.d⟩))); uxo (uxo (uxo x.a x.b) x.c) x.d) := by rw [hu, hm]; exact (rfl : _ = _)
  have CT : ∀ y, Calls Try.prog 39 #[.agg (cl v), nm m] y fun e w' => e = .returned (.agg (cl u)) ∧ Below y.heap.size y w' := fun y => by rw [hu]; exact stake_any v m y
  rw [← hm] at C8
  clear hu hm
  go_upto_region 5 with fail
  have ne : Nonempty (spc.In (ab.Ab W)) := ⟨⟨_, ab.Ab.refl W⟩⟩
  have ck : ∀ (x : spc.In (ab.Ab W)) o, x.W.cell? ⟨w.heap.size, o, none⟩ = (sc v p n)[o]? := fun x o => (Below.cell x.h (p := ⟨_, o, none⟩) K2.lt).trans (K2.cell o)
  refine' lsn.told 6 _ [(3, nm m), (4, .agg (cl u)), (5, undef)] [(5, 6)] (fun k u W2 => k = 5 → ∃ b, u = .pointer (some ⟨b, 0, none⟩) ∧ W.heap.size ≤ b ∧ Blk W2 b Z4 54) (ab.Ab W) (fun W W' => Below W.heap.size W W') (by kernel_rfl) (by simp only [List.take]; exact rfl) (by simp only [List.drop]; exact rfl) (by kernel_rfl) (by kernel_rfl) (ab.Ab.drew _)
    (fun k u W W' hb h hk => by obtain ⟨b, e, l, B⟩ := h hk; exact ⟨b, e, l, B.below hb B.lt⟩) (by simp only [spc.rep, List.lookup, Nat.zero_add, Nat.reduceAdd, Nat.reduceBEq]; exact rfl) ?_
  repeat (go_big_quiet_step (fail))
  refine wpQuiet_nil ⟨?_, ?_, ?_⟩
  · simp only [List.forall_mem_cons, List.not_mem_nil, false_imp_iff, implies_true, and_true]
    rintro _ ⟨⟩
    rfl
  · simp only [List.forall_mem_cons, List.not_mem_nil, false_imp_iff, implies_true, and_true]
    refine ⟨?_, ?_, ?_⟩
    · rintro _ ⟨⟩ x u hC - -
      refine told.call1 40 _ _ _ rfl (by intro args w; simp [go_sem]) rfl ((C8 u).mono ?_)
      rintro e w' ⟨rfl, rfl⟩
      exact ⟨_, rfl, hC, Below.refl _ _, rfl⟩
    · rintro _ ⟨⟩ x u hC - -
      refine told.call2 39 _ _ _ _ _ rfl (by intro args w; simp [go_sem]) rfl rfl ((CT u).mono ?_)
      rintro e w' ⟨rfl, hb⟩
      exact ⟨_, rfl, Below.trans hC (hb.mono (Below.size hC)), hb, rfl⟩
    · rintro _ ⟨⟩ x u hC - -
      simp [spc.yieldsTo, go_sem]
      exact ⟨Below.alloc hC (Below.size hC) _, (Below.refl _ _).alloc (Nat.le_refl _) _, Below.size hC, Blk.new _ _ _⟩
  intro x W' hC hS
  obtain ⟨b, eb, lb', A⟩ := hS (5, 6) (by simp) rfl
  have B3 := B2.trans (Below.mono hC (Below.size B2))
  have lt := Below.size B2
  clear hS ck ne K2 B2 hC C8 CT
  simp only [spc.jn, Act.put, List.setIfInBounds_toArray, List.set_cons_succ, List.set_cons_zero]
  simp only at eb
  rw [eb]
  clear eb
  go_upto_region 6 with (refine blk_store _ rfl 54 _ _ rfl b (cl u) rfl rfl _ _ A 4 v4_info rfl rfl (v4_one _ _ _ _) ?_; intro W2 A2 p2)
  have B4 := p2.below B3 (by omega)
  clear A B3 p2
  simp only [Act.put]
  have hx5 : ∀ y : UInt64, bits .xor .u64 (y.toNat : Int) 255 = ((uxo y 255).toNat : Int) := fun y => xor_law y 255
  have hxor := xor_law
  have ck := A2.cell
  have fk := A2.free
  go_upto_region 7 with fail
  clear ck fk
  refine gen (p := fun W => Code.wp _ _ _ _ W) (A2.setCell 2 _) ((but_setCell W2 b 2 _).below B4 (by omega)) ?_
  clear A2 B4
  intro W (K : Blk _ _ (cl ⟨u.a, u.b, uxo u.c 255, u.d⟩) _) B
  obtain ⟨y0, hy0⟩ : ∃ y0 : V4, y0 = ⟨u.a, u.b, uxo u.c 255, u.d⟩ := ⟨_, rfl⟩
  have HF : Hid (fin v p n = let x := rnd (rnd (rnd (rnd y0))); uxo (uxo (uxo x.a x.b) x.c) x.d) := by rw [hy0]; exact HF.out
  rw [← hy0] at K
  clear hy0
  go_wp2_with (refine blk_load _ rfl 54 _ rfl _ rfl _ _ K _ Try.underlying54 rfl 4 v4_info rfl ?_)
  refine (sround_any _ _).mono ?_
  rintro e V0 ⟨rfl, q⟩
  replace K := K.below q K.lt
  replace B := B.trans (q.mono (Below.size B))
  clear q
  go_wp2_with fail
  refine (sround_any _ _).mono ?_
  rintro e V1 ⟨rfl, q⟩
  replace K := K.below q K.lt
  replace B := B.trans (q.mono (Below.size B))
  clear q
  go_wp2_with fail
  refine (sround_any _ _).mono ?_
  rintro e V2 ⟨rfl, q⟩
  replace K := K.below q K.lt
  replace B := B.trans (q.mono (Below.size B))
  clear q
  go_wp2_with fail
  refine (sround_any _ _).mono ?_
  rintro e V3 ⟨rfl, q⟩
  replace K := K.below q K.lt
  replace B := B.trans (q.mono (Below.size B))
  clear q
  obtain ⟨y, hy⟩ : ∃ y, y = rnd (rnd (rnd (rnd y0))) := ⟨_, rfl⟩
  have HR : Hid (fin v p n = uxo (uxo (uxo y.a y.b) y.c) y.d) := by rw [hy]; exact HF.out
  rw [← hy]
  clear hy HF
  go_upto_region 8 with (refine blk_store _ rfl 54 _ _ rfl b (cl y) rfl rfl _ _ K 4 v4_info rfl rfl (v4_one _ _ _ _) ?_; intro W5 A5 p5)
  have B5 := p5.below B (by omega)
  clear K B p5
  have ck := A5.cell
  go_wp2_with fail
  exact bodyPost_ret (v := .tuple #[nm (uxo (uxo (uxo y.a y.b) y.c) y.d), .int .i64 0]) (by simp [results, Try.results32, go_sem]) rfl ⟨by rw [HR.out], B5⟩
theorem rend_no (v : V4) (p : ByteArray) (n : Int) (w : World) (h : okf p n = false) :
    Calls Try.prog 32 #[.agg (sc v p n)] w fun e w' => e = .returned (.tuple #[.int .u64 0, .int .i64 4]) ∧ Below w.heap.size w w' := by
  have K0 : Blk (w.alloc (.cells (sc v p n) 56)) w.heap.size (sc v p n) 56 := Blk.new _ _ _
  have B0 := (Below.refl w.heap.size w).alloc (Nat.le_refl _) (.cells (sc v p n) 56)
  go_enter Try.func32, Try.ntmps32
  go_upto_region 1 with fail
  refine gen (p := fun W => Code.wp _ _ _ _ W) K0 B0 ?_
  clear K0 B0
  intro W K B
  go_wp2_with (refine blk_load _ rfl 56 _ rfl _ rfl _ _ K _ Try.underlying56 rfl 6 sp_info rfl ?_)
  refine (right_any v p n _).mono ?_
  rintro e W1 ⟨rfl, q⟩
  replace B := B.trans (q.mono (Below.size B))
  rw [ef_f h]
  clear h q
  go_wp2_with fail
  exact bodyPost_ret (v := .tuple #[.int .u64 0, .int .i64 4]) (by simp [results, Try.results32, go_sem]) rfl ⟨rfl, B⟩
end Go.Proofs.Ytfaebenhjilkgaa.sipx
