/- What package sip's End answers. -/
import Derived.Test.YtfaebenhjilkgaaSipMore
namespace Go.Proofs.Ytfaebenhjilkgaa.sipe
open Go.ChangeShapes Go.WideShapes Go.ChangeAt Go.RowKit Go.BigFrame
open Go.Proofs.Ytfaebenhjilkgaa Go.Proofs.Ytfaebenhjilkgaa.sipm Go.Proofs.Ytfaebenhjilkgaa.boxes Go.Proofs.Ytfaebenhjilkgaa.sipb Go.Proofs.Ytfaebenhjilkgaa.sipt Go.Proofs.Ytfaebenhjilkgaa.sipn Go.Proofs.Ytfaebenhjilkgaa.sipf Go.Proofs.Ytfaebenhjilkgaa.sipr Go.Proofs.Ytfaebenhjilkgaa.sipo
open Go.Proofs.Ytfaebenhjilkgaa.sumw (Qd Qd.refl Qd.drewN Qd.trans)

/-- the last byte, and the last eight -/
def lb (n : Int) : UInt8 := UInt8.ofNat (n % 256).toNat
def tl (p : ByteArray) (n : Int) : List UInt8 := p.data.toList ++ List.replicate (7 - p.size) 0 ++ [lb n]
def lw (p : ByteArray) (n : Int) : UInt64 := eight (tl p n)
def fin (v : V4) (p : ByteArray) (n : Int) : UInt64 :=
  let u := tk v (lw p n)
  let x := rnds ⟨u.a, u.b, uxo u.c 255, u.d⟩ 4
  uxo (uxo (uxo x.a x.b) x.c) x.d
theorem val_zeros (l : List UInt8) : ∀ k, val (l ++ List.replicate k 0) = val l
  | 0 => by simp
  | k + 1 => by
    rw [List.replicate_succ', ← List.append_assoc, val_snoc, val_zeros l k]
    simp
theorem lw_val (p : ByteArray) (n : Int) (h : p.size ≤ 7) : (lw p n).toNat = val p.data.toList + (n % 256).toNat * 72057594037927936 := by
  have hl : p.data.toList.length = p.size := by simp
  have h1 : (p.data.toList ++ List.replicate (7 - p.size) 0).length = 7 := by rw [List.length_append, List.length_replicate]; omega
  unfold lw tl
  rw [eight_val _ (by rw [List.length_append, h1]; simp), val_snoc, h1, val_zeros]
  have : (lb n).toNat = (n % 256).toNat := by unfold lb; rw [UInt8.toNat_ofNat']; omega
  rw [this]
theorem or_law (p : ByteArray) (n : Int) (h : p.size ≤ 7) : bits .or .u64 ((eight p.data.toList).toNat : Int) ((n % 256) * 72057594037927936) = ((lw p n).toNat : Int) := by
  have hl : p.data.toList.length = p.size := by simp
  rw [lw_val p n h, eight_val _ (by omega)]
  have hv := val_lt p.data.toList
  have h3 : 256 ^ p.data.toList.length ≤ 256 ^ 7 := Nat.pow_le_pow_right (by decide) (by omega)
  have h64 : (256 : Nat) ^ 7 = 72057594037927936 := by decide
  generalize val p.data.toList = v at *
  have ew : (n % 256) * 72057594037927936 = (((n % 256).toNat * 72057594037927936 : Nat) : Int) := by
    omega
  rw [ew, u64_or_nat _ _ (by omega) (by omega), Nat.or_comm, nat_join 56 _ _ (by omega) (by omega), Nat.add_comm]

set_option maxHeartbeats 4000000 in
theorem end_ok (v : V4) (p : ByteArray) (n : Int) (w : World) (h : okf p n = true) :
    Calls Try.prog 28 #[.agg (sc v p n)] w fun e w' => e = .returned (.tuple #[nm (fin v p n), .int .i64 0]) ∧ Below w.heap.size w w' := by
  have hp : 0 ≤ n ∧ p.size ≤ 7 := by
    unfold okf at h
    simp at h
    omega
  obtain ⟨h0, h7⟩ := hp
  have K0 : Blk (w.alloc (.cells (sc v p n) 56)) w.heap.size (sc v p n) 56 := Blk.new _ _ _
  have B0 := (Below.refl w.heap.size w).alloc (Nat.le_refl _) (.cells (sc v p n) 56)
  have hor := or_law p n h7
  go_enter Try.func28, Try.ntmps28
  go_upto_region 1 with fail
  refine gen (p := fun W => Code.wp _ _ _ _ W) K0 B0 ?_
  clear K0 B0
  intro W K B
  go_wp2_with (refine blk_load _ rfl 56 _ rfl _ rfl _ _ K _ Try.underlying56 rfl 6 sp_info rfl ?_)
  refine (inForm_any v p n _).mono ?_
  rintro e W1 ⟨rfl, q⟩
  replace K := K.below q K.lt
  replace B := B.trans (q.mono (Below.size B))
  rw [h]
  clear h q
  go_upto_region 3 with fail
  have ne : Nonempty (spc.In (ab.Ab W1)) := ⟨⟨_, ab.Ab.refl W1⟩⟩
  have ck : ∀ (x : spc.In (ab.Ab W1)) o, x.W.cell? ⟨w.heap.size, o, none⟩ = (sc v p n)[o]? := fun x o => (Below.cell x.h (p := ⟨_, o, none⟩) K.lt).trans (K.cell o)
  have h256 : IntKind.u64.wrap (n % 256) = n % 256 := by rw [IntKind.wrap_u64]; omega
  refine' lsn.told 13 _ [(4, nm (eight p.data.toList)), (11, .agg (cl (tk v (lw p n)))), (12, undef)] [(12, 4)] (fun k u W => k = 12 → ∃ b, u = .pointer (some ⟨b, 0, none⟩) ∧ W1.heap.size ≤ b ∧ Blk W b Z4 54) (ab.Ab W1) (fun W W' => Below W.heap.size W W') (by kernel_rfl) (by simp only [List.take]; exact rfl) (by simp only [List.drop]; exact rfl) (by kernel_rfl) (by kernel_rfl) (ab.Ab.drew _)
    (fun k u W W' hb h hk => by obtain ⟨b, e, l, B⟩ := h hk; exact ⟨b, e, l, B.below hb B.lt⟩) (by simp only [spc.rep, List.lookup, Nat.zero_add, Nat.reduceAdd, Nat.reduceBEq]; exact rfl) ?_
  repeat (go_big_quiet_step (fail))
  refine wpQuiet_nil ⟨?_, ?_, ?_⟩
  · simp only [List.forall_mem_cons, List.not_mem_nil, false_imp_iff, implies_true, and_true]
    rintro _ ⟨⟩
    rfl
  · simp only [List.forall_mem_cons, List.not_mem_nil, false_imp_iff, implies_true, and_true]
    refine ⟨?_, ?_, ?_⟩
    · rintro _ ⟨⟩ x u hC - -
      refine told.call1 35 _ _ _ rfl (by intro args w; simp [go_sem]) rfl ((number_any p u (by omega)).mono ?_)
      rintro e w' ⟨rfl, rfl⟩
      exact ⟨_, rfl, hC, Below.refl _ _, rfl⟩
    · rintro _ ⟨⟩ x u hC - -
      refine told.call2 34 _ _ _ _ _ rfl (by intro args w; simp [go_sem]) rfl rfl ((take_any v (lw p n) u).mono ?_)
      rintro e w' ⟨rfl, hb⟩
      exact ⟨_, rfl, Below.trans hC (hb.mono (Below.size hC)), hb, rfl⟩
    · rintro _ ⟨⟩ x u hC - -
      simp [spc.yieldsTo, go_sem]
      refine ⟨Below.alloc hC (Below.size hC) _, (Below.refl _ _).alloc (Nat.le_refl _) _, Below.size hC, Blk.new _ _ _⟩
  intro x W hC hS
  obtain ⟨b, eb, lb', A⟩ := hS (12, 4) (by simp) rfl
  have B2 := B.trans (hC.mono (Below.size B))
  have lt := Below.size B
  clear hS ck ne hor h256 K B hC
  simp only [spc.jn, Act.put, List.setIfInBounds_toArray, List.set_cons_succ, List.set_cons_zero]
  simp only at eb
  rw [eb]
  obtain ⟨u, hu⟩ : ∃ u, u = tk v (lw p n) := ⟨_, rfl⟩
  have HF : Hid (fin v p n = let x := rnds ⟨u.a, u.b, uxo u.c 255, u.d⟩ 4; uxo (uxo (uxo x.a x.b) x.c) x.d) := by rw [hu]; exact (rfl : _ = _)
  rw [← hu]
  clear hu eb
  go_upto_region 4 with (refine blk_store _ rfl 54 _ _ rfl b (cl u) rfl rfl _ _ A 4 v4_info rfl rfl (v4_one _ _ _ _) ?_; intro W2 A2 p2)
  have B3 := p2.below B2 (by omega)
  clear A B2 p2
  simp only [Act.put]
  have hx5 : ∀ y : UInt64, bits .xor .u64 (y.toNat : Int) 255 = ((uxo y 255).toNat : Int) := fun y => xor_law y 255
  have hxor := xor_law
  have K := A2
  clear A2
  have ck := K.cell
  have fk := K.free
  go_upto_region 5 with fail
  clear ck fk
  refine gen (p := fun W => Code.wp _ _ _ _ W) (K.setCell 2 _) ((but_setCell W2 b 2 _).below B3 (by omega)) ?_
  clear K B3
  intro W (K : Blk _ _ (cl ⟨u.a, u.b, uxo u.c 255, u.d⟩) _) B
  go_wp2_with (refine blk_load _ rfl 54 _ rfl _ rfl _ _ K _ Try.underlying54 rfl 4 v4_info rfl ?_)
  refine (rounds_any ⟨u.a, u.b, uxo u.c 255, u.d⟩ 4 _ (by omega)).mono ?_
  rintro e W4 ⟨rfl, q⟩
  replace K := K.below q K.lt
  replace B := B.trans (q.mono (Below.size B))
  clear q
  obtain ⟨y, hy⟩ : ∃ y, y = rnds ⟨u.a, u.b, uxo u.c 255, u.d⟩ 4 := ⟨_, rfl⟩
  have HR : Hid (fin v p n = uxo (uxo (uxo y.a y.b) y.c) y.d) := by rw [hy]; exact HF.out
  rw [← hy]
  clear hy HF
  go_upto_region 6 with (refine blk_store _ rfl 54 _ _ rfl b (cl y) rfl rfl _ _ K 4 v4_info rfl rfl (v4_one _ _ _ _) ?_; intro W5 A5 p5)
  have B5 := p5.below B (by omega)
  clear K B p5
  have ck := A5.cell
  go_wp2_with fail
  exact bodyPost_ret (v := .tuple #[nm (uxo (uxo (uxo y.a y.b) y.c) y.d), .int .i64 0]) (by simp [results, Try.results28, go_sem]) rfl ⟨by rw [HR.out], B5⟩
theorem end_no (v : V4) (p : ByteArray) (n : Int) (w : World) (h : okf p n = false) :
    Calls Try.prog 28 #[.agg (sc v p n)] w fun e w' => e = .returned (.tuple #[.int .u64 0, .int .i64 4]) ∧ Below w.heap.size w w' := by
  have K0 : Blk (w.alloc (.cells (sc v p n) 56)) w.heap.size (sc v p n) 56 := Blk.new _ _ _
  have B0 := (Below.refl w.heap.size w).alloc (Nat.le_refl _) (.cells (sc v p n) 56)
  go_enter Try.func28, Try.ntmps28
  go_upto_region 1 with fail
  refine gen (p := fun W => Code.wp _ _ _ _ W) K0 B0 ?_
  clear K0 B0
  intro W K B
  go_wp2_with (refine blk_load _ rfl 56 _ rfl _ rfl _ _ K _ Try.underlying56 rfl 6 sp_info rfl ?_)
  refine (inForm_any v p n _).mono ?_
  rintro e W1 ⟨rfl, q⟩
  replace B := B.trans (q.mono (Below.size B))
  rw [h]
  clear h q
  go_wp2_with fail
  exact bodyPost_ret (v := .tuple #[.int .u64 0, .int .i64 4]) (by simp [results, Try.results28, go_sem]) rfl ⟨rfl, B⟩
end Go.Proofs.Ytfaebenhjilkgaa.sipe
