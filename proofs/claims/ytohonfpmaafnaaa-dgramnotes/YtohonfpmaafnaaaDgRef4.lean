/- What custref.NoteText and TextNote answer. -/
import Derived.Test.YtohonfpmaafnaaaDgRef3
import Derived.Test.YtohonfpmaafnaaaTold
namespace Go.Proofs.Ytohonfpmaafnaaa.dgf
open Go.ChangeShapes Go.WideShapes Go.ChangeAt Go.RowKit Go.BigFrame
open Go.Proofs.Ytohonfpmaafnaaa Go.Proofs.Ytohonfpmaafnaaa.EM Go.Proofs.Ytohonfpmaafnaaa.ethb Go.Proofs.Ytohonfpmaafnaaa.SM Go.Proofs.Ytohonfpmaafnaaa.ipb Go.Proofs.Ytohonfpmaafnaaa.buf Go.Proofs.Ytohonfpmaafnaaa.boxes Go.Proofs.Ytohonfpmaafnaaa.wds Go.Proofs.Ytohonfpmaafnaaa.dgb Go.Proofs.Ytohonfpmaafnaaa.dgi
open Go.Proofs.Ytohonfpmaafnaaa.dgn (nt_info nt_one)
open Go.Proofs.Ytohonfpmaafnaaa.sumw (Qd)
open Go.Proofs.Ytohonfpmaafnaaa.refb (bytes_any word_ref between_any)
open Go.Proofs.Ytohonfpmaafnaaa.ipm (bytes_ext ext_list size_list b8_of)
open Go.Proofs.Ytohonfpmaafnaaa.ipb (ret_text)

theorem noteText_bad (l : Nt) (w : World) (h : l.d.size ≤ 281474976710656) (hn : ¬ l.err = 0) :
    Calls Try.prog 15 #[.agg l.cells] w fun e w' => e = .returned (.tuple #[.string ⟨#[]⟩, .int .i64 l.err]) ∧ Below w.heap.size w w' := by
  have HA : Hid (_ → l.err = 1) := dgn.arg_err l
  have HB : Hid (_ → l.err = _) := dgn.more_err l
  obtain ⟨c, E⟩ : ∃ c, c = l.err := ⟨_, rfl⟩
  rw [← E] at HA HB hn ⊢
  have HN : Hid (¬ c = 0) := hn
  clear E hn
  have bel := (Below.refl w.heap.size w).alloc (Nat.le_refl _) (.cells l.cells 34)
  go_enter Try.func15, Try.ntmps15
  go_wp2_with fail
  refine (between_any l.ki 0 255 _).mono ?_
  rintro e w1 ⟨rfl, rfl⟩
  by_cases a1 : 0 ≤ l.ki ∧ l.ki ≤ 255
  case neg =>
    rw [decide_eq_false a1]
    go_wp2_with fail
    go_ret2
    exact ⟨ret_text rfl (HA.out (by omega)).symm, bel⟩
  rw [decide_eq_true a1]
  go_wp2_with fail
  refine (between_any l.co 0 255 _).mono ?_
  rintro e w1 ⟨rfl, rfl⟩
  by_cases a2 : 0 ≤ l.co ∧ l.co ≤ 255
  case neg =>
    rw [decide_eq_false a2]
    go_wp2_with fail
    go_ret2
    exact ⟨ret_text rfl (HA.out (by omega)).symm, bel⟩
  rw [decide_eq_true a2]
  have G : Hid (c = if 65507 < l.d.size then 2 else 0) := HB.out (by omega)
  clear HA HB a1 a2
  by_cases L : 65507 < l.d.size
  · go_wp2_with fail
    go_ret2
    exact ⟨ret_text rfl (by rw [G.out, if_pos L]), bel⟩
  · exact absurd (by rw [G.out, if_neg L]) HN.out
/-- the note's block stands while calls make others -/
structure KM (w : World) (l : Nt) (W : World) : Prop where
  m : Blk W w.heap.size l.cells 34
  bel : Below w.heap.size w W
theorem KM.call {w W w' : World} {l : Nt} (h : KM w l W) (hb : Below W.heap.size W w') : KM w l w' := ⟨h.m.below hb h.m.lt, h.bel.trans (hb.mono h.bel.size)⟩
theorem KM.drew {w W : World} {l : Nt} (h : KM w l W) : KM w l W.drew := ⟨h.m, Below.drew h.bel⟩
theorem build8 {o : Oper} {a : Act} {w : World} {R : Value → World → Prop} (x0 x1 x2 x3 x4 x5 x6 x7 : Operand) (m0 m1 m2 m3 m4 m5 m6 m7 : Int) (hop : o.op = .buildSlice 67 8 #[(0, x0), (1, x1), (2, x2), (3, x3), (4, x4), (5, x5), (6, x6), (7, x7)])
    (h0 : a.eval x0 = .int .i64 m0) (h1 : a.eval x1 = .int .i64 m1) (h2 : a.eval x2 = .int .i64 m2) (h3 : a.eval x3 = .int .i64 m3) (h4 : a.eval x4 = .int .i64 m4) (h5 : a.eval x5 = .int .i64 m5) (h6 : a.eval x6 = .int .i64 m6) (h7 : a.eval x7 = .int .i64 m7)
    (h : R (.slice (some ⟨w.heap.size, 0, none⟩) 8 8) (w.alloc (.cells #[.int .i64 m0, .int .i64 m1, .int .i64 m2, .int .i64 m3, .int .i64 m4, .int .i64 m5, .int .i64 m6, .int .i64 m7] 3))) : spc.yieldsTo Try.prog o a w R := by
  unfold spc.yieldsTo
  generalize a.eval = E at *
  simp [execOp, hop, h0, h1, h2, h3, h4, h5, h6, h7, go_sem]
  exact h
theorem cell_row {W : World} {b : Nat} {F : Array Value} {t : TypeId} (B : Blk W b F t) (xs : List Int) (hF : F = (xs.map fun x => Value.int .i64 x).toArray) : ∀ j, j < xs.length → W.cell? ⟨b, 0 + j, none⟩ = some (.int .i64 (xs.getD j 0)) := by
  intro j hj
  rw [B.cell, hF]
  simp [List.getElem?_eq_getElem hj, List.getD_eq_getElem?_getD]
/-- the eight numbers -/
def Nt.xs (l : Nt) : List Int := [l.ki, l.co, 0, 0, l.r0.toNat, l.r1.toNat, l.r2.toNat, l.r3.toNat]
theorem Nt.xs_list (l : Nt) : (Nt.xs l).map refb.b8 = [b8 l.ki, b8 l.co, 0, 0, l.r0, l.r1, l.r2, l.r3] := by
  have e : refb.b8 = ipb.b8 := rfl
  have z : ipb.b8 0 = 0 := rfl
  simp [Nt.xs, e, z, b8_of]
set_option maxRecDepth 20000 in
set_option maxHeartbeats 2000000 in
theorem noteText_ok (l : Nt) (w : World) (hp : l.Ok) :
    Calls Try.prog 15 #[.agg l.cells] w fun e w' => e = .returned (.tuple #[.string ⟨l.txt.toArray⟩, .int .i64 0]) ∧ Below w.heap.size w w' := by
  have f0 := hp.k0
  have f1 := hp.k1
  have t0 := hp.c0
  have t1 := hp.c1
  have d1 := hp.d1
  clear hp
  have W1 := fun u => between_any l.ki 0 255 u
  have W2 := fun u => between_any l.co 0 255 u
  rw [decide_eq_true ⟨f0, f1⟩] at W1
  rw [decide_eq_true ⟨t0, t1⟩] at W2
  have cB : ∀ (b : Nat) (u : World), Blk u b #[.int .i64 l.ki, .int .i64 l.co, .int .i64 0, .int .i64 0, .int .i64 (l.r0.toNat : Int), .int .i64 (l.r1.toNat : Int), .int .i64 (l.r2.toNat : Int), .int .i64 (l.r3.toNat : Int)] 3 → Calls Try.prog 35 #[.slice (some ⟨b, 0, none⟩) 8 8] u fun e w' => e = .returned (.string ⟨((Nt.xs l).map refb.b8).toArray⟩) ∧ Below u.heap.size u w' := fun b u B =>
    bytes_any u b 0 8 (Nt.xs l) B.lt (by simp [Nt.xs]) (cell_row B _ (by simp [Nt.xs]))
  have lV : (⟨((Nt.xs l).map refb.b8).toArray⟩ : ByteArray).data.toList = [b8 l.ki, b8 l.co, 0, 0, l.r0, l.r1, l.r2, l.r3] := Nt.xs_list l
  generalize (⟨((Nt.xs l).map refb.b8).toArray⟩ : ByteArray) = V at cB lV
  have zV : V.size = 8 := by rw [← size_list, lV]; rfl
  have HJ : Hid ((V ++ l.d).data.toList = b8 l.ki :: b8 l.co :: 0 :: 0 :: l.tl) := by show _ = _; rw [app_list, lV]; rfl
  have HE : Hid (∀ H : ByteArray, H.data.toList = b8 l.ki :: b8 l.co :: 0 :: 0 :: l.tl → H.extract 0 2 ++ wbs l.ck ++ H.extract 4 H.size = ⟨l.txt.toArray⟩) := by
    show ∀ _, _
    intro H hH
    apply bytes_ext
    have e4 : (H.extract 4 H.size).data.toList = l.tl := by rw [ext_list, List.take_of_length_le (by rw [size_list]; exact Nat.le_refl _), hH]; rfl
    rw [app_list, app_list, e4, ext_list, wbs_list, hH]
    simp [Nt.txt]
  have ckb := l.ck_bd
  have HC : Hid (65535 - wsum 0 (b8 l.ki :: b8 l.co :: 0 :: 0 :: l.tl) = l.ck) := (rfl : _ = _)
  have CW : ∀ (k : Int) u, 0 ≤ k → k ≤ 65535 → Calls Try.prog 27 #[.int .i64 k] u fun e w' => e = .returned (.string (wbs k)) ∧ Below u.heap.size u w' := fun k u h0 h1 => word_ref k u h0 h1
  have F0 : Blk (w.alloc (.cells l.cells 34)) w.heap.size l.cells 34 := Blk.new _ _ _
  have bel := (Below.refl w.heap.size w).alloc (Nat.le_refl _) (.cells l.cells 34)
  clear lV
  go_enter Try.func15, Try.ntmps15
  go_wp2_with fail
  refine (W1 _).mono ?_
  rintro e w1 ⟨rfl, rfl⟩
  go_wp2_with fail
  refine (W2 _).mono ?_
  rintro e w1 ⟨rfl, rfl⟩
  clear W1 W2
  have K0 : KM w l (w.alloc (.cells l.cells 34)) := ⟨F0, bel⟩
  clear F0 bel
  have wr : ∀ b : UInt8, wrap64 (b.toNat : Int) = (b.toNat : Int) := fun b => by have := byte_bd b; unfold wrap64; omega
  have wr0 := wr l.r0
  have wr1 := wr l.r1
  have wr2 := wr l.r2
  have wr3 := wr l.r3
  clear wr
  go_upto_region 5 with fail
  have ne : Nonempty (spc.In (KM w l)) := ⟨⟨_, K0⟩⟩
  have cm : ∀ (x : spc.In (KM w l)) k, x.W.cell? ⟨w.heap.size, k, none⟩ = l.cells[k]? := fun x => x.h.m.cell
  refine' spc.wp_region_told_in [(20, undef), (21, .string V)] [(20, 39)]
    (fun k v W => k = 20 → ∃ b, v = .slice (some ⟨b, 0, none⟩) 8 8 ∧ Blk W b #[.int .i64 l.ki, .int .i64 l.co, .int .i64 0, .int .i64 0, .int .i64 (l.r0.toNat : Int), .int .i64 (l.r1.toNat : Int), .int .i64 (l.r2.toNat : Int), .int .i64 (l.r3.toNat : Int)] 3) (KM w l) (fun W W' => Below W.heap.size W W') (by kernel_rfl) (by kernel_rfl) (KM.drew K0)
    (fun k v W W' hb h hk => (let ⟨b, e, B⟩ := h hk; ⟨b, e, B.below hb B.lt⟩)) (by simp only [spc.rep, List.lookup, Nat.zero_add, Nat.reduceAdd, Nat.reduceBEq]; exact rfl) ?_
  repeat (go_big_quiet_step (fail))
  refine wpQuiet_nil ⟨?_, ?_⟩
  · simp only [List.forall_mem_cons, List.not_mem_nil, false_imp_iff, implies_true, and_true]
    refine ⟨?_, ?_⟩
    · rintro _ ⟨⟩ x w2 hC - -
      refine build8 _ _ _ _ _ _ _ _ l.ki l.co 0 0 (l.r0.toNat : Int) (l.r1.toNat : Int) (l.r2.toNat : Int) (l.r3.toNat : Int) rfl rfl rfl rfl rfl (congrArg (Value.int .i64) wr0) (congrArg (Value.int .i64) wr1) (congrArg (Value.int .i64) wr2) (congrArg (Value.int .i64) wr3) ⟨KM.call hC ((Below.refl _ _).alloc (Nat.le_refl _) _), (Below.refl _ _).alloc (Nat.le_refl _) _, ?_⟩
      rw [if_pos (by decide)]
      exact fun _ => ⟨_, rfl, Blk.new _ _ _⟩
    · rintro _ ⟨⟩ x w2 hC hS -
      obtain ⟨b, e, B⟩ := hS (20, 39) (by simp) (by simp [Oper.looksAt, Op.operands, Call.operands]) rfl
      exact told.call1 35 _ _ (.slice (some ⟨b, 0, none⟩) 8 8) rfl (by intro args w; simp [go_sem]) e ((cB b _ B).mono fun e w3 ⟨he, hb⟩ => ⟨_, he, KM.call hC hb, hb, rfl⟩)
  intro x W hC hS
  clear hS cB ne cm K0 wr0 wr1 wr2 wr3
  simp only [spc.jn, Act.put, List.setIfInBounds_toArray, List.set_cons_succ, List.set_cons_zero]
  have zH : (V ++ l.d).size = 8 + l.d.size := by rw [ByteArray.size_append, zV]
  generalize V ++ l.d = H at HJ zH ⊢
  have cC : ∀ u, Calls Try.prog 28 #[.string H] u fun e w' => e = .returned (.int .i64 l.ck) ∧ w' = u := fun u => by
    have := sumr.check_any H u (by omega)
    rw [HJ.out, HC.out] at this
    exact this
  have HR : Hid (H.extract 0 2 ++ wbs l.ck ++ H.extract 4 H.size = ⟨l.txt.toArray⟩) := HE.out H HJ.out
  have zA : (H.extract 0 2).size = 2 := by rw [ByteArray.size_extract]; omega
  have zB : (H.extract 4 H.size).size = 4 + l.d.size := by rw [ByteArray.size_extract]; omega
  have zC := wbs_size l.ck
  have g2 : (2 : Int) ≤ H.size := by omega
  have g4 : (4 : Int) ≤ H.size := by omega
  clear HE HJ HC zH
  go_upto_region 6 with fail
  have bel := hC.bel
  clear hC
  have ne := ab.ne W
  refine ab.region (by kernel_rfl) (by kernel_rfl) ?_
  repeat (go_big_quiet_step (first
    | (go_at_call 28; exact ab.call_same (cC _))
    | (go_at_call 27; exact ab.call (CW _ _ (by omega) (by omega)))))
  refine wpQuiet_nil ?_
  intro _ hx
  obtain ⟨y, rfl⟩ := hx
  have Ky := y.h
  generalize y.W = W5 at Ky ⊢
  have bel5 := bel.trans (Ky.mono bel.size)
  go_wp2_with fail
  go_ret2
  exact ⟨ret_text HR.out rfl, bel5⟩
theorem noteText_any (l : Nt) (w : World) (h : l.d.size ≤ 281474976710656) :
    Calls Try.prog 15 #[.agg l.cells] w fun e w' => e = .returned (.tuple #[.string l.out, .int .i64 l.err]) ∧ Below w.heap.size w w' := by
  by_cases he : l.err = 0
  · rw [show l.out = ⟨l.txt.toArray⟩ by unfold Nt.out; rw [if_pos he], he]
    exact noteText_ok l w (Nt.ok he)
  · rw [show l.out = ⟨#[]⟩ by unfold Nt.out; rw [if_neg he]]
    exact noteText_bad l w h he
end Go.Proofs.Ytohonfpmaafnaaa.dgf
