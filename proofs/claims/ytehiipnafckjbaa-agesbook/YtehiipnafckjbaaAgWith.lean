/- What package ages' withLast answers. -/
import Derived.Test.YtehiipnafckjbaaAgShelf
import Derived.Test.YtehiipnafckjbaaRwsCut
import Derived.Deep.RegionLaw
import Derived.Deep.RegionWith
namespace Go.Proofs.Ytehiipnafckjbaa.agw
open Go.ChangeShapes Go.WideShapes Go.ChangeAt Go.RowKit Go.BigFrame
open Go.Proofs.Ytehiipnafckjbaa Go.Proofs.Ytehiipnafckjbaa.am Go.Proofs.Ytehiipnafckjbaa.ag Go.Proofs.Ytehiipnafckjbaa.ash Go.Proofs.Ytehiipnafckjbaa.boxes Go.Proofs.Ytehiipnafckjbaa.rwr
open Go.Proofs.Ytehiipnafckjbaa.rws (Knd Own cs_length cs_one cs_append)

/-- one element more, in a region that draws -/
theorem step_one {α : Type} {ops : Array Oper} {o : Oper} {a : Act} {w : World} {C : Act → World → Prop} {Q : Exit → Act → World → Prop} {E : Prop} (K : Knd α)
    (hg : o.guard = none) (s x : Operand) (hop : o.op = Op.call { callee := Callee.builtin Builtin.append, args := #[s, x], argTypes := #[K.s, K.s] })
    (B : Nat) (v : Value) (l : List α) (hs : a.eval s = v) (hown : Own K w B v l) (b c : Nat) (y : α) (t : TypeId) (hx : a.eval x = .slice (some ⟨b, 0, none⟩) 1 c) (hb : Blk w b (K.enc y) t)
    (b0 : l.length + 1 ≤ maxLen) (b1 : (l.length + 1) * K.by_ ≤ 140737488355328) (b4 : B ≤ w.heap.size)
    (hK : ∀ v' w', Own K w' B v' (l ++ [y]) → Below B w w' → w.grownBy w' v.ownBlock → C (a.put o.dst v') w') :
    if Region.wanted o (yielded ops a.tmps) = true then Oper.wp Try.prog o a w C Q else E := by
  obtain ⟨i0, hi, hz0, hz1, hz2⟩ := info_parts K.info
  have hw : Region.wanted o (yielded ops a.tmps) = true := by simp [Region.wanted, hg]
  rw [if_pos hw]
  obtain ⟨v', w', hrun, h1, h2, _⟩ := run_append_own (P := Try.prog) w B K.s o.type K.e i0 K.z K.k K.by_ K.hs hi hz0 hz1 hz2 K.hz K.pos v l.length (K.cs l) hown ⟨b, 0, none⟩ 1 c (K.cs [y]) (by rw [cs_length]; rfl)
    (fun j u hj => by
      have e : (⟨b, 0, none⟩ : Addr).add j = ⟨b, j, none⟩ := by unfold Addr.add; split <;> simp_all
      rw [e, hb.cell]
      simpa [Knd.cs] using hj) (cs_one K [y]) b0 b1 b4
  unfold Oper.wp
  simp [execOp, hop, resolve, invoke, builtin, hs, hx, hrun, Result.andThen]
  refine hK v' w' ?_ ?_ h2
  · unfold Own
    rw [cs_append, List.length_append]
    exact h1
  · exact (Below.refl _ _).grown h2 b4 (fun k hk => (hown.lt k hk).1)
set_option maxRecDepth 20000 in
set_option maxHeartbeats 8000000 in
theorem with_any (n : Int) (v : Value) (l : List Sy) (r now : Int) (w : World) (h : Rd SK w v l) (hb : l.length ≤ 1000) : Calls Try.prog 27 #[.agg (AC n v), .int .i64 r, .int .i64 now] w fun e w' => ∃ v', e = .returned (.agg (AC n v')) ∧ Own SK w' w.heap.size v' (l ++ [⟨r, now⟩]) ∧ Below w.heap.size w w' := by
  have F0 := (Blk.new w (AC n v) 24).alloc (.cells Z2 24)
  have G0 := Blk.newAt (w.alloc (.cells (AC n v) 24)) Z2 24 (b := w.heap.size + 1) (by simp)
  have b0 := ((Below.refl w.heap.size w).alloc (Nat.le_refl _) (.cells (AC n v) 24)).alloc (by simp) (.cells Z2 24)
  have r0 := h.below b0
  obtain ⟨V, HV⟩ : ∃ V, Hid ((w.alloc (.cells (AC n v) 24)).alloc (.cells Z2 24) = V) := ⟨_, rfl⟩
  rw [HV.out] at F0 G0 b0 r0
  have CL : ∀ u, Below V.heap.size V u → _ := fun u hu => clone_any v l u (r0.below hu) (by omega)
  obtain ⟨sa, sc, rfl⟩ := h.form
  have hBV := b0.size
  have sz : w.heap.size + 1 < V.heap.size := G0.lt
  clear h r0
  go_enter Try.func27, Try.ntmps27
  go_upto_region 1 with fail
  rw [HV.out]
  have cF0 := F0.cell
  have cF5 := (F0.alloc (.cells #[.int .i64 r, .int .i64 now] 41)).cell
  have hs1 : ∀ u : World, Below V.heap.size V u → V.heap.size ≤ u.heap.size := fun u hu => hu.size
  go_region_law (first
    | (refine step_one SK rfl (.tmp 11) (.tmp 15) rfl V.heap.size v1 l (by simp [Act.eval]) (o1.alloc _) w1.heap.size 1 ⟨r, now⟩ 41 (by simp [Act.eval]) (Blk.new _ _ _) (by unfold maxLen; omega) (by show (l.length + 1) * 16 ≤ _; omega) (by simp; omega) ?_; intro v4 w4 o4 l4 _; have B4 := (B1.alloc (by omega) _).trans l4; obtain ⟨sa4, sc4, rfl⟩ := (Own.rd o4).form; have cF4 := (F0.below B4 F0.lt).cell; have cG4 := (G0.below B4 G0.lt).cell; have fG4 := (G0.below B4 G0.lt).free)
    | (refine step_one SK rfl (.tmp 11) (.tmp 15) rfl V.heap.size v1 l (by simp [Act.eval]) o1 V.heap.size 1 ⟨r, now⟩ 41 (by simp [Act.eval]) ((Blk.new V.drew _ _).below l1 (by simp)) (by unfold maxLen; omega) (by show (l.length + 1) * 16 ≤ _; omega) (by omega) ?_; intro v4 w4 o4 l4 _; have B4 := B1.trans l4; obtain ⟨sa4, sc4, rfl⟩ := (Own.rd o4).form; have cF4 := (F0.below B4 F0.lt).cell; have cG4 := (G0.below B4 G0.lt).cell; have fG4 := (G0.below B4 G0.lt).free)
    | (go_simp; go_wp2_with (go_at_call 22; refine (CL _ (by first | exact (Below.refl _ _).drew | exact ((Below.refl _ _).drew).alloc (Nat.le_refl _) _)).mono ?_; rintro e w1 ⟨v1, rfl, o1', l1⟩; have o1 := o1'.mono (B' := V.heap.size) (by simp); have B1 : Below V.heap.size V w1 := (by first | exact ((Below.refl _ _).drew).trans l1 | exact (((Below.refl _ _).drew).alloc (Nat.le_refl _) _).trans (l1.mono (by simp))); have hB1 := B1.size; have cF1 := (F0.below B1 F0.lt).cell; have cF6 := ((F0.below B1 F0.lt).alloc (.cells #[.int .i64 r, .int .i64 now] 41)).cell)))
  all_goals
    simp only [List.length_append, List.length_cons, List.length_nil, Nat.zero_add] at o4
    have G4 := (G0.below B4 G0.lt).setCell 0 (.int .i64 n)
    have hne := own_ne o4 sz
    have O5 := o4.setCell (i := 0) (u := .int .i64 n) hne
    have O6 := O5.setCell (i := 1) (u := .slice sa4 (l.length + 1) sc4) hne
    have d4 := b0.trans (B4.mono hBV)
    have d6 := (but_setCell _ (w.heap.size + 1) 1 (.slice sa4 (l.length + 1) sc4)).below ((but_setCell w4 (w.heap.size + 1) 0 (.int .i64 n)).below d4 (by omega)) (by omega)
    clear o4 O5 d4 cF4 cG4 fG4 cF1 cF6 cF0 cF5 B1 B4 l4 l1 o1 CL hs1
    go_wp2_with fail
    exact blk_one rfl rfl (w.heap.size + 1) _ _ rfl (G4.setCell 1 _) _ Try.underlying24 rfl 2 ag_info rfl ⟨_, rfl, O6.mono hBV, d6⟩
end Go.Proofs.Ytehiipnafckjbaa.agw
