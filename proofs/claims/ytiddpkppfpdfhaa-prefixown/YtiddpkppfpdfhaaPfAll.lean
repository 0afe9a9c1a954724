/- prefix.All: what it answers. -/
import Derived.Test.YtiddpkppfpdfhaaPfWalk
import Derived.Test.YtiddpkppfpdfhaaRwsAt2
import Derived.Test.YtiddpkppfpdfhaaSpec
import Derived.Shelf.Abstract
namespace Go.Proofs.Ytiddpkppfpdfhaa.pf
open Go.ChangeShapes Go.WideShapes Go.ChangeAt Go.RowKit Go.BigFrame
open Go.Proofs.Ytiddpkppfpdfhaa Go.Proofs.Ytiddpkppfpdfhaa.pm Go.Proofs.Ytiddpkppfpdfhaa.boxes Go.Proofs.Ytiddpkppfpdfhaa.rwr Go.Proofs.Ytiddpkppfpdfhaa.rwat
open Go.Proofs.Ytiddpkppfpdfhaa.rws (Knd Own)

/-- of what there was just the blocks of two rows may have turned -/
structure Two (v1 v2 : Value) (w w' : World) : Prop where
  os : w'.os = w.os
  tape : w'.tape = w.tape
  output : w'.output = w.output
  size : w.heap.size ≤ w'.heap.size
  block : ∀ b, b < w.heap.size → v1.ownBlock ≠ some b → v2.ownBlock ≠ some b → w'.heap[b]? = w.heap[b]?
theorem Two.refl (v1 v2 : Value) (w : World) : Two v1 v2 w w := ⟨rfl, rfl, rfl, Nat.le_refl _, fun _ _ _ _ => rfl⟩
theorem Two.drew {v1 v2 : Value} {w w' : World} (h : Two v1 v2 w w') : Two v1 v2 w w'.drew := ⟨h.os, h.tape, h.output, h.size, h.block⟩
theorem Two.alloc {v1 v2 : Value} {w w' : World} (h : Two v1 v2 w w') (o : Obj) : Two v1 v2 w (w'.alloc o) := ⟨h.os, h.tape, h.output, Nat.le_trans h.size (by simp), fun b hb h1 h2 => (Below.heap_alloc w' o b (Nat.lt_of_lt_of_le hb h.size)).trans (h.block b hb h1 h2)⟩
theorem Two.grown1 {v1 v2 : Value} {w w1 w2 : World} (h : Two v1 v2 w w1) (g : w1.grownBy w2 v1.ownBlock) : Two v1 v2 w w2 :=
  ⟨g.os.trans h.os, g.tape.trans h.tape, g.output.trans h.output, Nat.le_trans h.size g.size, fun b hb e1 e2 => (g.block b (Nat.lt_of_lt_of_le hb h.size) fun e => e1 e.symm).trans (h.block b hb e1 e2)⟩
theorem Two.grown2 {v1 v2 : Value} {w w1 w2 : World} (h : Two v1 v2 w w1) (g : w1.grownBy w2 v2.ownBlock) : Two v1 v2 w w2 :=
  ⟨g.os.trans h.os, g.tape.trans h.tape, g.output.trans h.output, Nat.le_trans h.size g.size, fun b hb e1 e2 => (g.block b (Nat.lt_of_lt_of_le hb h.size) fun e => e2 e.symm).trans (h.block b hb e1 e2)⟩
theorem net_told {o : Oper} {a : Act} {w : World} {R : Value → World → Prop} (x : Operand) (qa : Nat) (ql : Int) (hop : o.op = .buildSlice 37 1 #[(0, x)]) (he : a.eval x = .agg #[.int .u32 (qa : Int), .int .i64 ql])
    (h : R (.slice (some ⟨w.heap.size, 0, none⟩) 1 1) (w.alloc (.cells #[.int .u32 (qa : Int), .int .i64 ql] 27))) : spc.yieldsTo Try.prog o a w R := by
  have z0 := Try.sizeOf27
  unfold spc.yieldsTo
  generalize a.eval = E at *
  simp [execOp, hop, he, go_sem, z0]
  exact h
theorem int_told {o : Oper} {a : Act} {w : World} {R : Value → World → Prop} (x : Operand) (u : Int) (hop : o.op = .buildSlice 38 1 #[(0, x)]) (he : a.eval x = .int .i64 u)
    (h : R (.slice (some ⟨w.heap.size, 0, none⟩) 1 1) (w.alloc (.cells #[.int .i64 u] 3))) : spc.yieldsTo Try.prog o a w R := by
  have z0 := Try.sizeOf3
  unfold spc.yieldsTo
  generalize a.eval = E at *
  simp [execOp, hop, he, go_sem, z0]
  exact h
theorem app_told {α : Type} {o : Oper} {a : Act} {w : World} {R : Value → World → Prop} (K : Knd α) (s x : Operand) (hop : o.op = Op.call { callee := Callee.builtin Builtin.append, args := #[s, x], argTypes := #[K.s, K.s] })
    (B : Nat) (v : Value) (l : List α) (hs : a.eval s = v) (hown : Own K w B v l) (b c : Nat) (y : α) (t : TypeId) (hx : a.eval x = .slice (some ⟨b, 0, none⟩) 1 c) (hb : Blk w b (K.enc y) t)
    (b0 : l.length + 1 ≤ 1000000000000) (b1 : (l.length + 1) * K.by_ ≤ 140737488355328) (b4 : B ≤ w.heap.size)
    (h : ∀ v' w', Own K w' B v' (l ++ [y]) → w.grownBy w' v.ownBlock → (v'.ownBlock = v.ownBlock ∨ v'.ownBlock = some w.heap.size) → (∀ u, Own K w B u (l ++ [y]) → Own K w' B u (l ++ [y])) → Own K w' B v l → R v' w') : spc.yieldsTo Try.prog o a w R := by
  obtain ⟨v', w', hrun, h1, h2, h3, h4, h5⟩ := run_at2 K w o.type B v l hown b c y t hb b0 b1 b4
  unfold spc.yieldsTo
  generalize a.eval = E at *
  simp [execOp, hop, resolve, invoke, builtin, hs, hx, hrun, Result.andThen]
  exact h v' w' h1 h2 h3 h4 h5
theorem where_ge {v v' : Value} {N M : Nat} (h : v'.ownBlock = v.ownBlock ∨ v'.ownBlock = some M) (hN : N ≤ M) : ∀ g, v'.ownBlock = some g → v.ownBlock = some g ∨ N ≤ g := by
  intro g hg
  rcases h with e | e
  · exact Or.inl (by rw [← e]; exact hg)
  · rw [e] at hg; cases hg; exact Or.inr hN
/-- while one row is made longer -/
structure CA (B b1 b2 bo qa : Nat) (ql : Int) (v1 v2 : Value) (L1 : List Nt) (L2 : List Int) (V w : World) : Prop where
  o1 : Own TK w B v1 L1
  o2 : Own NK w B v2 L2
  f0 : Blk w bo (NC qa ql) 27
  f1 : Blk w b1 #[v1] 37
  f2 : Blk w b2 #[v2] 38
  tw : Two v1 v2 V w
theorem CA.below {B b1 b2 bo qa : Nat} {ql : Int} {v1 v2 : Value} {L1 : List Nt} {L2 : List Int} {V w w' : World} (h : CA B b1 b2 bo qa ql v1 v2 L1 L2 V w) (hb : Below w.heap.size w w') : CA B b1 b2 bo qa ql v1 v2 L1 L2 V w' :=
  ⟨h.o1.kept hb, h.o2.kept hb, h.f0.below hb h.f0.lt, h.f1.below hb h.f1.lt, h.f2.below hb h.f2.lt, ⟨hb.os.trans h.tw.os, hb.tape.trans h.tw.tape, hb.output.trans h.tw.output, Nat.le_trans h.tw.size hb.size, fun b hlt e1 e2 => (hb.block b (Nat.lt_of_lt_of_le hlt h.tw.size)).trans (h.tw.block b hlt e1 e2)⟩⟩
set_option maxHeartbeats 8000000 in
set_option maxRecDepth 20000 in
theorem all1_any (b1 b2 B qa : Nat) (ql u : Int) (v1 v2 : Value) (L1 : List Nt) (L2 : List Int) (W : World) (F1 : Blk W b1 #[v1] 37) (F2 : Blk W b2 #[v2] 38) (O1 : Own TK W B v1 L1) (O2 : Own NK W B v2 L2)
    (h1 : b1 < B) (h2 : b2 < B) (n1 : b1 ≠ b2) (hB : B ≤ W.heap.size) (m1 : L1.length ≤ 1000000) (m2 : L2.length ≤ 1000000) :
    Calls Try.prog 43 #[.agg (NC qa ql), .int .i64 u, .pointer (some ⟨b1, 0, none⟩), .pointer (some ⟨b2, 0, none⟩)] W fun e w' => e = .returned (.tuple #[]) ∧
      ∃ v1' v2', Blk w' b1 #[v1'] 37 ∧ Blk w' b2 #[v2'] 38 ∧ Own TK w' B v1' (L1 ++ [⟨qa, ql⟩]) ∧ Own NK w' B v2' (L2 ++ [u]) ∧ (∀ g, v1'.ownBlock = some g → v1.ownBlock = some g ∨ W.heap.size ≤ g) ∧ (∀ g, v2'.ownBlock = some g → v2.ownBlock = some g ∨ W.heap.size ≤ g) ∧
      w'.os = W.os ∧ w'.tape = W.tape ∧ w'.output = W.output ∧ W.heap.size ≤ w'.heap.size ∧ ∀ b, b < W.heap.size → b ≠ b1 → b ≠ b2 → v1.ownBlock ≠ some b → v2.ownBlock ≠ some b → w'.heap[b]? = W.heap[b]? := by
  have bo := (Below.refl W.heap.size W).alloc (Nat.le_refl _) (.cells (NC qa ql) 27)
  have Go0 := Blk.new W (NC qa ql) 27
  have G1 := F1.alloc (.cells (NC qa ql) 27)
  have G2 := F2.alloc (.cells (NC qa ql) 27)
  have P1 := O1.alloc (.cells (NC qa ql) 27)
  have P2 := O2.alloc (.cells (NC qa ql) 27)
  have zz1 := own_lt O1
  have zz2 := own_lt O2
  have y1 := own_ge O1
  have y2 := own_ge O2
  clear F1 F2 O1 O2
  obtain ⟨sa1, sc1, hv1⟩ := (Own.rd P1).form
  subst hv1
  obtain ⟨sa2, sc2, hv2⟩ := (Own.rd P2).form
  subst hv2
  go_enter Try.func43, Try.ntmps43
  go_upto_region 1 with fail
  have hVs : (W.alloc (Obj.cells (NC qa ql) 27)).heap.size = W.heap.size + 1 := by simp
  generalize hV : W.alloc (Obj.cells (NC qa ql) 27) = V at *
  clear hV
  have kt : NK.e ≠ TK.e := by unfold NK TK; decide
  have kn : TK.e ≠ NK.e := by unfold NK TK; decide
  have nk2 := kinds_ne P2 P1 kt
  have nk1 := kinds_ne P1 P2 kn
  have hVW : V.heap.size = W.heap.size + 1 := hVs
  have C0 : CA B b1 b2 W.heap.size qa ql (.slice sa1 L1.length sc1) (.slice sa2 L2.length sc2) L1 L2 V V.drew := ⟨P1, P2, Go0, G1, G2, Two.drew (Two.refl _ _ _)⟩
  have ne : Nonempty (spc.In (CA B b1 b2 W.heap.size qa ql (.slice sa1 L1.length sc1) (.slice sa2 L2.length sc2) L1 L2 V)) := ⟨⟨_, C0⟩⟩
  have c0 : ∀ (x : spc.In (CA B b1 b2 W.heap.size qa ql (.slice sa1 L1.length sc1) (.slice sa2 L2.length sc2) L1 L2 V)) o, x.W.cell? ⟨W.heap.size, o, none⟩ = (NC qa ql)[o]? := fun x => x.h.f0.cell
  have c1 : ∀ (x : spc.In (CA B b1 b2 W.heap.size qa ql (.slice sa1 L1.length sc1) (.slice sa2 L2.length sc2) L1 L2 V)) o, x.W.cell? ⟨b1, o, none⟩ = #[Value.slice sa1 L1.length sc1][o]? := fun x => x.h.f1.cell
  have c2 : ∀ (x : spc.In (CA B b1 b2 W.heap.size qa ql (.slice sa1 L1.length sc1) (.slice sa2 L2.length sc2) L1 L2 V)) o, x.W.cell? ⟨b2, o, none⟩ = #[Value.slice sa2 L2.length sc2][o]? := fun x => x.h.f2.cell
  refine' lsn.told 7 _ [(2, undef), (3, undef), (6, undef)] [(2, 8), (3, 9), (6, 12)]
    (fun k v w => (k = 2 → ∃ b, v = .slice (some ⟨b, 0, none⟩) 1 1 ∧ V.heap.size ≤ b ∧ Blk w b (NC qa ql) 27) ∧ (k = 3 → Own TK w B v (L1 ++ [⟨qa, ql⟩]) ∧ ∀ g, v.ownBlock = some g → Value.ownBlock (.slice sa1 L1.length sc1) = some g ∨ V.heap.size ≤ g) ∧ (k = 6 → ∃ b, v = .slice (some ⟨b, 0, none⟩) 1 1 ∧ V.heap.size ≤ b ∧ Blk w b #[.int .i64 u] 3))
    (CA B b1 b2 W.heap.size qa ql (.slice sa1 L1.length sc1) (.slice sa2 L2.length sc2) L1 L2 V)
    (fun w w' => (∀ b, b < w.heap.size → Value.ownBlock (.slice sa1 L1.length sc1) ≠ some b → w'.heap[b]? = w.heap[b]?) ∧ ∀ v, Own TK w B v (L1 ++ [⟨qa, ql⟩]) → Own TK w' B v (L1 ++ [⟨qa, ql⟩]))
    (by kernel_rfl) (by simp only [List.take]; exact rfl) (by simp only [List.drop]; exact rfl) (by kernel_rfl) (by kernel_rfl) C0
    (fun k v w w' hT hS => ⟨fun hk => (let ⟨b, e, l, F⟩ := hS.1 hk; ⟨b, e, l, (hT.1 b F.lt (fun e2 => by have := zz1 _ e2; omega)).trans F⟩), fun hk => ⟨hT.2 _ (hS.2.1 hk).1, (hS.2.1 hk).2⟩, fun hk => (let ⟨b, e, l, F⟩ := hS.2.2 hk; ⟨b, e, l, (hT.1 b F.lt (fun e2 => by have := zz1 _ e2; omega)).trans F⟩)⟩) (by simp only [spc.rep, List.lookup, Nat.zero_add, Nat.reduceAdd, Nat.reduceBEq]; exact rfl) ?_
  repeat (go_big_quiet_step (fail))
  refine wpQuiet_nil ⟨?_, ?_, ?_⟩
  · simp only [List.forall_mem_cons, List.not_mem_nil, false_imp_iff, implies_true, and_true]
    exact ⟨by rintro _ ⟨⟩; rfl, by rintro _ ⟨⟩; rfl, by rintro _ ⟨⟩; rfl⟩
  · simp only [List.forall_mem_cons, List.not_mem_nil, false_imp_iff, implies_true, and_true]
    refine ⟨?_, ?_, ?_⟩
    · rintro _ ⟨⟩ x w1 hC - -
      refine net_told _ qa ql rfl rfl ?_
      have hb := (Below.refl w1.heap.size w1).alloc (Nat.le_refl _) (.cells (NC qa ql) 27)
      refine ⟨hC.below hb, ⟨fun b hlt _ => hb.block b hlt, fun v hv => hv.alloc _⟩, ?_⟩
      rw [if_pos (by decide)]
      exact ⟨fun _ => ⟨_, rfl, hC.tw.size, Blk.new _ _ _⟩, ⟨fun h => absurd h (by decide), fun h => absurd h (by decide)⟩⟩
    · rintro _ ⟨⟩ x w1 hC hS -
      obtain ⟨b8, e8, l8, F8⟩ := (hS (2, 8) (by simp) (by simp [Oper.looksAt, Op.operands, Call.operands])).1 rfl
      refine app_told TK (.tmp 6) (.tmp 8) rfl B (.slice sa1 L1.length sc1) L1 rfl hC.o1 b8 1 ⟨qa, ql⟩ 27 e8 F8 (by omega) (by show (L1.length + 1) * 16 ≤ _; omega) (by have := hC.tw.size; omega) ?_
      intro v' w' k1 k2 k3 k4 k5
      have o := Only.of_app k2 k3
      refine ⟨⟨k5, own_grown hC.o2 k2 nk2, o.blk hC.f0 (fun e => by have := zz1 _ e; omega), o.blk hC.f1 (fun e => by have := y1 _ e; omega), o.blk hC.f2 (fun e => by have := y1 _ e; omega), hC.tw.grown1 k2⟩, ⟨fun b hlt hne => k2.block b hlt fun e => hne e.symm, k4⟩, ?_⟩
      rw [if_pos (by decide)]
      exact ⟨fun h => absurd h (by decide), ⟨fun _ => ⟨k1, where_ge k3 hC.tw.size⟩, fun h => absurd h (by decide)⟩⟩
    · rintro _ ⟨⟩ x w1 hC - -
      refine int_told _ u rfl rfl ?_
      have hb := (Below.refl w1.heap.size w1).alloc (Nat.le_refl _) (.cells #[.int .i64 u] 3)
      refine ⟨hC.below hb, ⟨fun b hlt _ => hb.block b hlt, fun v hv => hv.alloc _⟩, ?_⟩
      rw [if_pos (by decide)]
      exact ⟨fun h => absurd h (by decide), ⟨fun h => absurd h (by decide), fun _ => ⟨_, rfl, hC.tw.size, Blk.new _ _ _⟩⟩⟩
  intro x W3 hC hS
  obtain ⟨o9, z9⟩ := (hS (3, 9) (by simp)).2.1 rfl
  obtain ⟨b12, e12, l12, F12⟩ := (hS (6, 12) (by simp)).2.2 rfl
  obtain ⟨sa9, sc9, e9⟩ := (Own.rd o9).form
  simp only [spc.jn, Act.put, List.setIfInBounds_toArray, List.set_cons_succ, List.set_cons_zero]
  have e12 : x 6 = _ := e12
  have e9 : x 3 = _ := e9
  rw [e12, e9]
  have o9 : Own TK W3 B (x 3) _ := o9
  rw [e9] at o9
  have z9 : ∀ g, (x 3).ownBlock = some g → _ := z9
  rw [e9] at z9
  clear hS ne c0 c1 c2 C0 e12 e9
  generalize x 2 = q8

  have hB3 : B ≤ W3.heap.size := by have := hC.tw.size; omega
  refine app_at NK W3 rfl (.tmp 10) (.tmp 12) rfl B (.slice sa2 L2.length sc2) L2 rfl hC.o2 b12 1 u 3 rfl F12 (by omega) (by show (L2.length + 1) * 8 ≤ _; omega) hB3 ?_
  intro v13 W4 k1 k2 k3
  have o := Only.of_app k2 k3
  have T4 := hC.tw.grown2 k2
  have f1 := o.blk hC.f1 (fun e => by have := y2 _ e; omega)
  have f2 := o.blk hC.f2 (fun e => by have := y2 _ e; omega)
  have o9 := own_grown o9 k2 (kinds_ne o9 hC.o2 kn)
  have z13 := where_ge k3 hC.tw.size
  have hs4 : B ≤ W4.heap.size := Nat.le_trans hB3 k2.size
  clear hC F12 o k3 k2 hB3
  obtain ⟨sa13, sc13, e13⟩ := (Own.rd k1).form
  subst e13
  have d1 : W4.cell? ⟨b1, 0, none⟩ = some (.slice sa1 L1.length sc1) := f1.cell 0
  have d1f : W4.frozen? ⟨b1, 0, none⟩ = false := f1.free 0
  have d2 : W4.cell? ⟨b2, 0, none⟩ = some (.slice sa2 L2.length sc2) := f2.cell 0
  have d2f : W4.frozen? ⟨b2, 0, none⟩ = false := f2.free 0
  have n1' : b2 ≠ b1 := fun e => n1 e.symm
  have hne1 := own_ne o9 h1
  have hne2 := own_ne o9 h2
  have hne3 := own_ne k1 h1
  have hne4 := own_ne k1 h2
  generalize hLA : L1 ++ [(⟨qa, ql⟩ : Nt)] = LA at *
  generalize hLB : L2 ++ [u] = LB at *
  generalize LA.length = nA at *
  generalize LB.length = nB at *
  go_wp2_with fail
  go_end0
  have bu1 := but_setCell W4 b1 0 (.slice sa9 nA sc9)
  have bu2 := but_setCell (W4.setCell ⟨b1, 0, none⟩ (.slice sa9 nA sc9)) b2 0 (.slice sa13 nB sc13)
  have g1 : Blk (W4.setCell ⟨b1, 0, none⟩ (.slice sa9 nA sc9)) b1 #[.slice sa9 nA sc9] 37 := f1.setCell 0 _
  refine ⟨rfl, .slice sa9 nA sc9, bu2.blk g1 n1, .slice sa13 nB sc13, (bu1.blk f2 n1').setCell 0 _, (o9.setCell hne1).setCell hne2, (k1.setCell hne3).setCell hne4, fun g hg => (z9 g hg).imp id fun h => by omega, fun g hg => (z13 g hg).imp id fun h => by omega, ?_, ?_, ?_, ?_, ?_⟩
  · exact bu2.os.trans (bu1.os.trans (T4.os.trans bo.os))
  · exact bu2.tape.trans (bu1.tape.trans (T4.tape.trans bo.tape))
  · exact bu2.output.trans (bu1.output.trans (T4.output.trans bo.output))
  · rw [bu2.size, bu1.size]; have := T4.size; omega
  · intro b hb e1 e2 e3 e4
    rw [bu2.block b e2, bu1.block b e1, T4.block b (by omega) e3 e4]
    exact bo.block b hb
end Go.Proofs.Ytiddpkppfpdfhaa.pf
