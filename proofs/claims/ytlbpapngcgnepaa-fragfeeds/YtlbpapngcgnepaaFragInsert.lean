/- What slices.Insert of one part answers: the row with it, in place or in a new one. -/
import Derived.Test.YtlbpapngcgnepaaFragDelete
import Derived.Lib.Overlaps
import Derived.Lib.AppendZerosOnto
import Derived.Lib.AppendZeros
namespace Go.Proofs.Ytlbpapngcgnepaa.fri
open Go.ChangeShapes Go.WideShapes Go.ChangeAt Go.RowKit Go.BigFrame
open Go.Proofs.Ytlbpapngcgnepaa Go.Proofs.Ytlbpapngcgnepaa.boxes Go.Proofs.Ytlbpapngcgnepaa.frp Go.Proofs.Ytlbpapngcgnepaa.pl Go.Proofs.Ytlbpapngcgnepaa.frd
open Go.Proofs.Ytlbpapngcgnepaa.rws (Own Knd cs_length cs_one cs_append)

theorem run_copy_k {α : Type} (K : Knd α) (w : World) (ty : TypeId) (g o dLen dCap : Nat) (a : Addr) (sLen sCap : Nat) (cur : Array Value) (cs : List Value)
    (hg : w.heap[g]? = some (.cells cur K.e (0, 0))) (m : Nat) (hm : Nat.min sLen dLen = m) (hn : cs.length = m * K.k)
    (hsrc : ∀ j v, cs[j]? = some v → w.cell? (a.add j) = some v) (hfit : o + cs.length ≤ cur.size) (h1 : ∀ v ∈ cs, v.oneCell' = true) :
    (Builtin.copy_ #[K.s, K.s] ty #[.slice (some ⟨g, o, none⟩) dLen dCap, .slice (some a) sLen sCap]).run Try.prog w =
      .ok (goInt m) (w.setRow g (cur.toList.take o ++ cs ++ cur.toList.drop (o + cs.length)).toArray) := by
  have hl := run_loadCells_list (P := Try.prog) w a cs hsrc
  have hst := run_storeCells_at (P := Try.prog) g o K.e cs 0 cur w hg (by simpa using hfit) h1
  obtain ⟨i0, hi, hz0, hz1, hz2⟩ := info_parts K.info
  rw [hn] at hl
  simp [Builtin.copy_, run_underlying K.hs, Builtin.lenOf, Builtin.firstCells, sizeOf, typeInfo, hi, hz1, hm, hl, hst]
theorem wpList_copy {ops : Array Oper} {rest : List Oper} {o : Oper} {a : Act} {Q : Exit → Act → World → Prop} (w : World) (hgd : o.guard = none) (d s : Operand) (t t' : TypeId)
    (ho : o.op = .call { callee := .builtin .copy, args := #[d, s], argTypes := #[t, t'] }) (v u : Value) (hd : a.eval d = v) (hs : a.eval s = u) {v' : Value} {w' : World}
    (hr : (Builtin.copy_ #[t, t'] o.type #[v, u]).run Try.prog w = .ok v' w') (h : wpList Try.prog ops Q rest (a.put o.dst v') w') : wpList Try.prog ops Q (o :: rest) a w := by
  refine wpList_plain hgd fun _ hK => ?_
  unfold Oper.wp
  simp [execOp, ho, resolve, invoke, builtin, hd, hs, hr, Result.andThen]
  exact hK _ _ h
theorem step_copy {ops : Array Oper} {o : Oper} {a : Act} {w : World} {K : Act → World → Prop} {Q : Exit → Act → World → Prop} {E : Prop}
    (hg : o.guard = none) (d x : Operand) (dT sT : TypeId) (hop : o.op = Op.call { callee := Callee.builtin Builtin.copy, args := #[d, x], argTypes := #[dT, sT] })
    (v u : Value) (hd : a.eval d = v) (hx : a.eval x = u) {v' : Value} {w' : World} (hr : (Builtin.copy_ #[dT, sT] o.type #[v, u]).run Try.prog w = .ok v' w') (hK : K (a.put o.dst v') w') :
    if Region.wanted o (yielded ops a.tmps) = true then Oper.wp Try.prog o a w K Q else E := by
  have hw : Region.wanted o (yielded ops a.tmps) = true := by simp [Region.wanted, hg]
  rw [if_pos hw]
  unfold Oper.wp
  simp [execOp, hop, resolve, invoke, builtin, hd, hx, hr, Result.andThen]
  exact hK
/-- what is laid, seen as a list -/
theorem laid {α : Type} (P Y C : List α) (a b n : Nat) (hP : C.take n = P) (ha : a ≤ n) (hY : Y.length = b) (hn : n + b ≤ C.length) :
    ((C.take (a + b) ++ P.drop a ++ C.drop (a + b + (n - a))).take a ++ Y ++ (C.take (a + b) ++ P.drop a ++ C.drop (a + b + (n - a))).drop (a + Y.length)).take (n + b) = P.take a ++ Y ++ P.drop a := by
  have hPl : P.length = n := by rw [← hP, List.length_take]; omega
  have e1 : (C.take (a + b) ++ P.drop a ++ C.drop (a + b + (n - a))).take a = P.take a := by
    rw [List.append_assoc, List.take_append_of_le_length (by rw [List.length_take]; omega), List.take_take, Nat.min_eq_left (by omega), ← hP, List.take_take, Nat.min_eq_left ha]
  have e2 : (C.take (a + b) ++ P.drop a ++ C.drop (a + b + (n - a))).drop (a + Y.length) = P.drop a ++ C.drop (a + b + (n - a)) := by
    rw [List.append_assoc, hY]
    exact List.drop_left' (by rw [List.length_take]; omega)
  rw [e1, e2, ← List.append_assoc]
  exact List.take_left' (by rw [List.length_append, List.length_append, List.length_take, List.length_drop]; omega)
set_option maxHeartbeats 4000000 in
set_option maxRecDepth 100000 in
/-- there is room -/
theorem ins_shift (ps : List Pt) (B g cap vb i : Nat) (y : Pt) (w : World) (h : Own TK w B (.slice (some ⟨g, 0, none⟩) ps.length cap) ps) (hi : i < ps.length) (hroom : ps.length + 1 ≤ cap) (hv : Blk w vb y.cells 49) (hne : vb ≠ g) :
    Calls Try.prog 71 #[.slice (some ⟨g, 0, none⟩) ps.length cap, .int .i64 (i : Int), .slice (some ⟨vb, 0, none⟩) 1 1] w fun e w' =>
      ∃ v', e = .returned v' ∧ Own TK w' B v' (ps.take i ++ y :: ps.drop i) ∧ w.grownBy w' (some g) ∧ (v'.ownBlock = some g ∨ v'.ownBlock = some w.heap.size) := by
  rcases h.2 with ⟨e, _⟩ | ⟨g', cap', cur, e, hB, hg, hnc, hm, hcs, htake⟩
  · simp at e
  simp only [Value.slice.injEq, Option.some.injEq, Addr.mk.injEq, and_true, true_and] at e
  obtain ⟨rfl, rfl⟩ := e
  have hcell := fun j hj => World.ownsRow.cellAt h j hj
  obtain ⟨n, hn⟩ : ∃ n, ps.length = n := ⟨_, rfl⟩
  rw [hn] at hi hroom hnc htake hcell
  have hm' : cap ≤ 9223372036854775807 := by unfold maxLen at hm; omega
  have hcs3 : cur.size = cap * 3 := hcs
  have ht3 : cur.toList.take (n * 3) = TK.cs ps := htake
  have hPl : (TK.cs ps).length = n * 3 := by rw [cs_length, hn]; rfl
  have hY : (y.cells.toList).length = 3 := rfl
  -- the world behind both copies
  obtain ⟨C1, hC1⟩ : ∃ C1, C1 = (cur.toList.take ((i + 1) * 3) ++ (TK.cs ps).drop (i * 3) ++ cur.toList.drop ((i + 1) * 3 + ((TK.cs ps).drop (i * 3)).length)).toArray := ⟨_, rfl⟩
  have hd3 : ((TK.cs ps).drop (i * 3)).length = n * 3 - i * 3 := by rw [List.length_drop, hPl]
  have hC1s : C1.size = cap * 3 := by
    rw [hC1]; simp only [List.size_toArray, List.length_append, List.length_take, List.length_drop, Array.length_toList, hPl]; omega
  have hcp1 : ∀ ty dc sc, (Builtin.copy_ #[44, 44] ty #[.slice (some ⟨g, (i + 1) * 3, none⟩) (n - i) dc, .slice (some ⟨g, i * 3, none⟩) (n + 1 - i) sc]).run Try.prog w.drew = .ok (goInt ((n - i : Nat) : Int)) (w.drew.setRow g C1) := fun ty dc sc => by
    rw [hC1]
    refine run_copy_k TK w.drew ty g ((i + 1) * 3) (n - i) dc ⟨g, i * 3, none⟩ (n + 1 - i) sc cur ((TK.cs ps).drop (i * 3)) hg (n - i) (by simp only [Nat.min_def]; split <;> omega) (by rw [hd3]; show _ = (n - i) * 3; omega) (fun j v hj => ?_) (by rw [hd3]; omega) (fun v hv' => cs_one TK ps v (List.mem_of_mem_drop hv'))
    rw [List.getElem?_drop] at hj
    have hadd : (⟨g, i * 3, none⟩ : Addr).add j = ⟨g, i * 3 + j, none⟩ := by unfold Addr.add; split <;> simp_all
    rw [hadd]
    have hlt := (List.getElem?_eq_some_iff.1 hj).1
    rw [hPl] at hlt
    exact (hcell _ hlt).trans hj
  have hg1 : (w.drew.setRow g C1).heap[g]? = some (.cells C1 TK.e (0, 0)) := setRow_heap w.drew g cur C1 TK.e _ hg
  obtain ⟨C2, hC2⟩ : ∃ C2, C2 = (C1.toList.take (i * 3) ++ y.cells.toList ++ C1.toList.drop (i * 3 + y.cells.toList.length)).toArray := ⟨_, rfl⟩
  have hC2s : C2.size = cap * 3 := by
    rw [hC2, hY]
    rw [List.size_toArray, List.length_append, List.length_append, hY, List.length_take, List.length_drop, Array.length_toList, hC1s]
    omega
  have hcp2 : ∀ ty dc, (Builtin.copy_ #[44, 44] ty #[.slice (some ⟨g, i * 3, none⟩) (n + 1 - i) dc, .slice (some ⟨vb, 0, none⟩) 1 1]).run Try.prog (w.drew.setRow g C1) = .ok (goInt 1) ((w.drew.setRow g C1).setRow g C2) := fun ty dc => by
    rw [hC2]
    refine run_copy_k TK _ ty g (i * 3) (n + 1 - i) dc ⟨vb, 0, none⟩ 1 1 C1 y.cells.toList hg1 1 (by simp only [Nat.min_def]; split <;> omega) rfl (fun j v hj => ?_) (by rw [hC1s, hY]; omega) (fun v hv' => Array.all_eq_true'.1 (pt_one y) v (by simpa using hv'))
    have hadd : (⟨vb, 0, none⟩ : Addr).add j = ⟨vb, j, none⟩ := by unfold Addr.add; split <;> simp_all
    rw [hadd]
    have e1 : (w.drew.setRow g C1).cell? ⟨vb, j, none⟩ = w.cell? ⟨vb, j, none⟩ := World.cell?_of_block (a := ⟨vb, j, none⟩) (setRow_other w.drew g vb C1 hne)
    rw [e1, hv.cell]
    simpa using hj
  have hfin : Own TK ((w.drew.setRow g C1).setRow g C2) B (.slice (some ⟨g, 0, none⟩) (n + 1) cap) (ps.take i ++ y :: ps.drop i) := by
    have hl : (ps.take i ++ y :: ps.drop i).length = n + 1 := by simp; omega
    refine ⟨by rw [cs_length], .inr ⟨g, cap, C2, by rw [hl], hB, setRow_heap _ g C1 C2 TK.e _ hg1, by rw [hl]; exact hroom, hm, hC2s, ?_⟩⟩
    rw [hl]
    have e : TK.cs (ps.take i ++ y :: ps.drop i) = (TK.cs ps).take (i * 3) ++ y.cells.toList ++ (TK.cs ps).drop (i * 3) := by
      rw [cs_append, cs_take]
      have : TK.cs (y :: ps.drop i) = y.cells.toList ++ TK.cs (ps.drop i) := rfl
      rw [this, cs_drop, List.append_assoc]; rfl
    rw [e, hC2, hC1]
    have := laid (TK.cs ps) y.cells.toList cur.toList (i * 3) 3 (n * 3) ht3 (by omega) hY (by rw [Array.length_toList]; omega)
    have e3 : (i + 1) * 3 = i * 3 + 3 := by omega
    have e4 : (n + 1) * TK.k = n * 3 + 3 := by show (n + 1) * 3 = _; omega
    rw [hd3, e3, e4]
    exact this
  have hgrow : w.grownBy ((w.drew.setRow g C1).setRow g C2) (some g) := ⟨rfl, rfl, rfl, by simp, fun k _ hk => by
    rw [setRow_other _ g k C2 (fun e => hk (by rw [e])), setRow_other _ g k C1 (fun e => hk (by rw [e]))]; rfl⟩
  obtain ⟨W1, hW1⟩ : ∃ W1, W1 = w.drew.setRow g C1 := ⟨_, rfl⟩
  obtain ⟨W2, hW2⟩ : ∃ W2, W2 = (w.drew.setRow g C1).setRow g C2 := ⟨_, rfl⟩
  rw [← hW2] at hfin hgrow hcp2
  rw [← hW1] at hcp1 hcp2
  have hov : ∀ lb cb, (callFunc 88 #[.slice (some ⟨vb, 0, none⟩) 1 1, .slice (some ⟨g, (i + 1) * 3, none⟩) lb cb]).run Try.prog w = .ok (.value (.bool false)) w := fun lb cb => by
    rw [run_callFunc_extern Try.func88 (by kernel_rfl) (by kernel_rfl) (by kernel_rfl) (e := Extern.SlicesOverlaps.overlaps #[44, 44] #[4]) (by kernel_rfl),
      Lib.run_overlaps_apart w 44 4 49 Try.underlying44 3 Try.sizeOf49 ⟨vb, 0, none⟩ ⟨g, (i + 1) * 3, none⟩ 1 1 lb cb hne 49 49 3 (cap * 3) (by simp [World.shape?, show w.heap[vb]? = some (.cells y.cells 49 (0, 0)) from hv]) (by simp [World.shape?, hg, hcs3]; rfl) (by omega) (hv.free 0) (hv.free 3)]
    rfl
  have hz1 : ¬ ((i : Int) = (n : Int)) := by omega
  have hin : i ≤ n := by omega
  have hb2 : ¬ (cap = i + 1) := by omega
  have hb4 : ¬ (cap = i) := by omega
  have hb3 : (i : Int) ≤ (n : Int) + 1 := by omega
  have hb5 : (i : Int) + 1 ≤ (n : Int) + 1 := by omega
  have hb6 : (n : Int) + 1 ≤ (cap : Int) := by omega
  have hb7 : ¬ (cap : Int) < (n : Int) + 1 := by omega
  have hb1 : (0 : Int) ≤ (i : Int) + 1 := by omega
  have hw1 : IntKind.i64.wrap ((i : Int) + 1) = (i : Int) + 1 := by rw [IntKind.wrap_i64]; omega
  have htn : ((i : Int) + 1).toNat = i + 1 := by omega
  clear hcell hC1 hC2 hcs htake ht3 hW1 hW2 hg1 hC1s hC2s hcs3 hd3 hPl h hg hv hY
  rw [hn]
  go_enter Try.func71, Try.ntmps71
  go_wp2_with (simp only [hov])
  go_region_law (refine step_copy rfl (.tmp 73) (.tmp 76) 44 44 rfl (.slice (some ⟨g, (i + 1) * 3, none⟩) (n - i) (cap - (i + 1))) (.slice (some ⟨g, i * 3, none⟩) (n + 1 - i) (cap - i)) (by simp [Act.eval, Act.put]) (by simp [Act.eval, Act.put]) (hcp1 _ _ _) ?_)
  go_wp2_with (at_builtin; refine wpList_copy _ rfl _ _ 44 44 rfl (.slice (some ⟨g, i * 3, none⟩) (n + 1 - i) (cap - i)) (.slice (some ⟨vb, 0, none⟩) 1 1) rfl rfl (hcp2 _ _) ?_)
  go_ret
  exact ⟨_, rfl, hfin, hgrow, Or.inl rfl⟩
/-- what is laid in a new row, seen as a list -/
theorem laid2 {α : Type} (P Y Z : List α) (a b n : Nat) (hP : P.length = n) (ha : a ≤ n) (hY : Y.length = b) :
    (((P.take a ++ Z).take a ++ Y ++ (P.take a ++ Z).drop (a + Y.length)).take (a + b) ++ P.drop a ++ ((P.take a ++ Z).take a ++ Y ++ (P.take a ++ Z).drop (a + Y.length)).drop (a + b + (P.drop a).length)).take (n + b) = P.take a ++ Y ++ P.drop a := by
  have e0 : (P.take a).length = a := by rw [List.length_take]; omega
  have e1 : (P.take a ++ Z).take a = P.take a := List.take_left' e0
  rw [e1]
  have e2 : (P.take a ++ Y).length = a + b := by rw [List.length_append, e0, hY]
  rw [List.take_left' e2]
  exact List.take_left' (by rw [List.length_append, e2, List.length_drop]; omega)
set_option maxHeartbeats 4000000 in
set_option maxRecDepth 100000 in
/-- there is no room: a new row -/
theorem ins_grow (ps : List Pt) (B g cap vb i : Nat) (y : Pt) (w : World) (h : Own TK w B (.slice (some ⟨g, 0, none⟩) ps.length cap) ps) (hi : i < ps.length) (hroom : cap < ps.length + 1) (hv : Blk w vb y.cells 49) (hlen : ps.length ≤ 1000000) (hBs : B ≤ w.heap.size) :
    Calls Try.prog 71 #[.slice (some ⟨g, 0, none⟩) ps.length cap, .int .i64 (i : Int), .slice (some ⟨vb, 0, none⟩) 1 1] w fun e w' =>
      ∃ v', e = .returned v' ∧ Own TK w' B v' (ps.take i ++ y :: ps.drop i) ∧ w.grownBy w' (some g) ∧ (v'.ownBlock = some g ∨ v'.ownBlock = some w.heap.size) := by
  rcases h.2 with ⟨e, _⟩ | ⟨g', cap', cur, e, hB, hg, hnc, hm, hcs, htake⟩
  · simp at e
  simp only [Value.slice.injEq, Option.some.injEq, Addr.mk.injEq, and_true, true_and] at e
  obtain ⟨rfl, rfl⟩ := e
  have hcell := fun j hj => World.ownsRow.cellAt h j hj
  obtain ⟨n, hn⟩ : ∃ n, ps.length = n := ⟨_, rfl⟩
  rw [hn] at hi hroom hnc hcell hlen
  have hgl : g < w.heap.size := (Array.getElem?_eq_some_iff.1 hg).1
  have hvl := hv.lt
  have hPl : (TK.cs ps).length = n * 3 := by rw [cs_length, hn]; rfl
  have hY : (y.cells.toList).length = 3 := rfl
  obtain ⟨i0, hi0, hz0, hz1, hz2⟩ := info_parts TK.info
  have hcap : cap = n := by omega
  subst hcap
  obtain ⟨G, hG⟩ : ∃ G, G = grownCap w (cap + 1) cap TK.e := ⟨_, rfl⟩
  have hG1 : cap + 1 ≤ G := by rw [hG]; exact grownCap_ge w _ _ _
  have hG2 : G ≤ maxLen := by rw [hG]; exact grownCap_le_maxLen w _ _ _ (by unfold maxLen; omega)
  obtain ⟨Z, hZ⟩ : ∃ Z, Z = Builtin.zeroCells TK.z.cells (cap + 1 - i) ++ Builtin.zeroCells TK.z.cells (G - (cap + 1)) := ⟨_, rfl⟩
  have hZs : Z.size = G * 3 - i * 3 := by
    rw [hZ]
    have e1 : TK.z.cells.size = 3 := rfl
    simp [Builtin.zeroCells, e1]; omega
  obtain ⟨ROW, hROW⟩ : ∃ ROW : Array Value, ROW = ((TK.cs ps).take (i * 3)).toArray ++ Z := ⟨_, rfl⟩
  have hRs : ROW.size = G * 3 := by rw [hROW]; simp [hZs, hPl]; omega
  have hrz : ∀ ty, (Builtin.append_ #[44, 3] ty #[.slice (some ⟨g, 0, none⟩) i cap, .int .i64 ((cap : Int) + 1 - (i : Int))]).run Try.prog w =
      .ok (.slice (some ⟨w.heap.size, 0, none⟩) (cap + 1) G) (w.drew.alloc (.cells ROW TK.e)) := fun ty => by
    have hold : (Builtin.firstCells i0.size i (.slice (some ⟨g, 0, none⟩) i cap)).run Try.prog w.drew = .ok ((TK.cs ps).take (i * 3)).toArray w.drew := by
      rw [hz1]
      exact run_firstCells_some w.drew 3 i ⟨g, 0, none⟩ i cap ((TK.cs ps).take (i * 3)) (by rw [List.length_take, hPl]; omega) (fun j v hj => by
        have hadd : (⟨g, 0, none⟩ : Addr).add j = ⟨g, j, none⟩ := by unfold Addr.add; split <;> simp_all
        rw [hadd]
        rw [List.getElem?_take] at hj
        split at hj
        · rename_i hlt
          exact (hcell j (by show j < cap * 3; omega)).trans hj
        · cases hj)
    have hk : (cap : Int) + 1 - (i : Int) = ((cap + 1 - i : Nat) : Int) := by omega
    have hik : i + (cap + 1 - i) = cap + 1 := by omega
    have hh := Lib.run_append_grow_zeros w 44 3 ty TK.e i0 _ .i64 .i64 Try.underlying44 Try.underlying3 hi0 hz0 (some ⟨g, 0, none⟩) i cap _ hold (cap + 1 - i) (by omega) (by rw [hz1]; decide) (by omega) (by omega) (by rw [hz2]; show _ * 32 ≤ _; omega) (by rw [hz2, hik]; exact growslice_fits (by omega) (by show (cap + 1) * 32 ≤ _; omega))
    rw [hik, ← hG] at hh
    rw [hk, hh, hROW, hZ, Array.append_assoc]
  obtain ⟨W1, hW1⟩ : ∃ W1, W1 = w.drew.alloc (.cells ROW TK.e) := ⟨_, rfl⟩
  rw [← hW1] at hrz
  have hg1 : W1.heap[w.heap.size]? = some (.cells ROW TK.e (0, 0)) := by rw [hW1]; exact heap_alloc_new w.drew _
  have hold1 : ∀ k, k < w.heap.size → W1.heap[k]? = w.heap[k]? := fun k hk => by rw [hW1]; exact heap_alloc_old w.drew _ hk
  obtain ⟨C1, hC1⟩ : ∃ C1, C1 = (ROW.toList.take (i * 3) ++ y.cells.toList ++ ROW.toList.drop (i * 3 + y.cells.toList.length)).toArray := ⟨_, rfl⟩
  have hC1s : C1.size = G * 3 := by
    rw [hC1, hY, List.size_toArray, List.length_append, List.length_append, hY, List.length_take, List.length_drop, Array.length_toList, hRs]; omega
  have hcp1 : ∀ ty dc, (Builtin.copy_ #[44, 44] ty #[.slice (some ⟨w.heap.size, i * 3, none⟩) (cap + 1 - i) dc, .slice (some ⟨vb, 0, none⟩) 1 1]).run Try.prog W1 = .ok (goInt 1) (W1.setRow w.heap.size C1) := fun ty dc => by
    rw [hC1]
    refine run_copy_k TK _ ty w.heap.size (i * 3) (cap + 1 - i) dc ⟨vb, 0, none⟩ 1 1 ROW y.cells.toList hg1 1 (by simp only [Nat.min_def]; split <;> omega) rfl (fun j v hj => ?_) (by rw [hRs, hY]; omega) (fun v hv' => Array.all_eq_true'.1 (pt_one y) v (by simpa using hv'))
    have hadd : (⟨vb, 0, none⟩ : Addr).add j = ⟨vb, j, none⟩ := by unfold Addr.add; split <;> simp_all
    rw [hadd, World.cell?_of_block (a := ⟨vb, j, none⟩) (hold1 vb hvl), hv.cell]
    simpa using hj
  obtain ⟨W2, hW2⟩ : ∃ W2, W2 = W1.setRow w.heap.size C1 := ⟨_, rfl⟩
  have hg2 : W2.heap[w.heap.size]? = some (.cells C1 TK.e (0, 0)) := by rw [hW2]; exact setRow_heap W1 w.heap.size ROW C1 TK.e _ hg1
  have hold2 : ∀ k, k < w.heap.size → W2.heap[k]? = w.heap[k]? := fun k hk => by rw [hW2, setRow_other W1 _ k C1 (by omega)]; exact hold1 k hk
  rw [← hW2] at hcp1
  have hd3 : ((TK.cs ps).drop (i * 3)).length = cap * 3 - i * 3 := by rw [List.length_drop, hPl]
  obtain ⟨C2, hC2⟩ : ∃ C2, C2 = (C1.toList.take ((i + 1) * 3) ++ (TK.cs ps).drop (i * 3) ++ C1.toList.drop ((i + 1) * 3 + ((TK.cs ps).drop (i * 3)).length)).toArray := ⟨_, rfl⟩
  have hC2s : C2.size = G * 3 := by
    rw [hC2, List.size_toArray, List.length_append, List.length_append, hd3, List.length_take, List.length_drop, Array.length_toList, hC1s]; omega
  have hcp2 : ∀ ty dc sc, (Builtin.copy_ #[44, 44] ty #[.slice (some ⟨w.heap.size, (i + 1) * 3, none⟩) (cap - i) dc, .slice (some ⟨g, i * 3, none⟩) (cap - i) sc]).run Try.prog W2.drew = .ok (goInt ((cap - i : Nat) : Int)) (W2.drew.setRow w.heap.size C2) := fun ty dc sc => by
    rw [hC2]
    refine run_copy_k TK W2.drew ty w.heap.size ((i + 1) * 3) (cap - i) dc ⟨g, i * 3, none⟩ (cap - i) sc C1 ((TK.cs ps).drop (i * 3)) hg2 (cap - i) (by simp only [Nat.min_def]; split <;> omega) (by rw [hd3]; show _ = (cap - i) * 3; omega) (fun j v hj => ?_) (by rw [hd3, hC1s]; omega) (fun v hv' => cs_one TK ps v (List.mem_of_mem_drop hv'))
    rw [List.getElem?_drop] at hj
    have hadd : (⟨g, i * 3, none⟩ : Addr).add j = ⟨g, i * 3 + j, none⟩ := by unfold Addr.add; split <;> simp_all
    rw [hadd]
    have hlt := (List.getElem?_eq_some_iff.1 hj).1
    rw [hPl] at hlt
    have e1 : W2.drew.cell? ⟨g, i * 3 + j, none⟩ = w.cell? ⟨g, i * 3 + j, none⟩ := World.cell?_of_block (a := ⟨g, i * 3 + j, none⟩) (hold2 g hgl)
    rw [e1]
    exact (hcell _ hlt).trans hj
  have hfin : Own TK (W2.drew.setRow w.heap.size C2) B (.slice (some ⟨w.heap.size, 0, none⟩) (cap + 1) G) (ps.take i ++ y :: ps.drop i) := by
    have hl : (ps.take i ++ y :: ps.drop i).length = cap + 1 := by simp; omega
    refine ⟨by rw [cs_length], .inr ⟨w.heap.size, G, C2, by rw [hl], hBs, setRow_heap _ w.heap.size C1 C2 TK.e _ hg2, by rw [hl]; exact hG1, hG2, hC2s, ?_⟩⟩
    rw [hl]
    have e : TK.cs (ps.take i ++ y :: ps.drop i) = (TK.cs ps).take (i * 3) ++ y.cells.toList ++ (TK.cs ps).drop (i * 3) := by
      rw [cs_append, cs_take]
      have : TK.cs (y :: ps.drop i) = y.cells.toList ++ TK.cs (ps.drop i) := rfl
      rw [this, cs_drop, List.append_assoc]; rfl
    have := laid2 (TK.cs ps) y.cells.toList Z.toList (i * 3) 3 (cap * 3) hPl (by omega) hY
    have e3 : (i + 1) * 3 = i * 3 + 3 := by omega
    have e4 : (cap + 1) * TK.k = cap * 3 + 3 := by show (cap + 1) * 3 = _; omega
    have e5 : ROW.toList = (TK.cs ps).take (i * 3) ++ Z.toList := by rw [hROW]; simp
    rw [e, hC2, hC1, e5, e3, e4]
    exact this
  have hgrow : w.grownBy (W2.drew.setRow w.heap.size C2) (some g) := by
    refine ⟨by rw [hW2, hW1]; rfl, by rw [hW2, hW1]; rfl, by rw [hW2, hW1]; rfl, ?_, fun k hk _ => ?_⟩
    · have := (Array.getElem?_eq_some_iff.1 hg2).1
      simp; exact Nat.le_of_lt this
    · rw [setRow_other _ w.heap.size k C2 (by omega)]
      exact hold2 k hk
  obtain ⟨W3, hW3⟩ : ∃ W3, W3 = W2.drew.setRow w.heap.size C2 := ⟨_, rfl⟩
  rw [← hW3] at hfin hgrow hcp2
  have hz1' : ¬ ((i : Int) = (cap : Int)) := by omega
  have hin : i ≤ cap := by omega
  have hb2 : ¬ (G = i + 1) := by omega
  have hb4 : ¬ (G = i) := by omega
  have hb5 : ¬ (cap = i) := by omega
  have hb3 : (i : Int) ≤ (cap : Int) + 1 := by omega
  have hb6 : (i : Int) + 1 ≤ (cap : Int) + 1 := by omega
  have hb1 : (0 : Int) ≤ (i : Int) + 1 := by omega
  have hw1 : IntKind.i64.wrap ((i : Int) + 1) = (i : Int) + 1 := by rw [IntKind.wrap_i64]; omega
  have htn : ((i : Int) + 1).toNat = i + 1 := by omega
  clear hcell hC1 hC2 hcs htake hW1 hW2 hW3 hg1 hg2 hC1s hC2s hd3 hPl h hg hv hY hZ hZs hROW hRs hold1 hold2 hG hi0 hz0 hz1 hz2
  rw [hn]
  go_enter Try.func71, Try.ntmps71
  go_wp2_with (first | (at_builtin; refine Lib.wpList_append_run _ rfl _ _ _ _ rfl _ _ rfl rfl _ _ (hrz _) ?_) | (at_builtin; refine wpList_copy _ rfl _ _ 44 44 rfl (.slice (some ⟨w.heap.size, i * 3, none⟩) (cap + 1 - i) (G - i)) (.slice (some ⟨vb, 0, none⟩) 1 1) rfl rfl (hcp1 _ _) ?_))
  go_region_law (refine step_copy rfl (.tmp 50) (.tmp 53) 44 44 rfl (.slice (some ⟨w.heap.size, (i + 1) * 3, none⟩) (cap - i) (G - (i + 1))) (.slice (some ⟨g, i * 3, none⟩) (cap - i) (cap - i)) (by simp [Act.eval, Act.put]) (by simp [Act.eval, Act.put]) (hcp2 _ _ _) ?_)
  go_wp2_with fail
  go_ret
  exact ⟨_, rfl, hfin, hgrow, Or.inr rfl⟩
/-- one element more, and where the row then lies -/
theorem app_where {ops : Array Oper} {rest : List Oper} {o : Oper} {a : Act} {Q : Exit → Act → World → Prop} (w : World)
    (hg : o.guard = none) (s x : Operand) (hop : o.op = Op.call { callee := Callee.builtin Builtin.append, args := #[s, x], argTypes := #[TK.s, TK.s] })
    (B : Nat) (v : Value) (l : List Pt) (hs : a.eval s = v) (hown : Own TK w B v l) (b : Nat) (y : Pt) (hx : a.eval x = .slice (some ⟨b, 0, none⟩) 1 1) (hb : Blk w b y.cells 49)
    (hl : l.length ≤ 1000000) (b4 : B ≤ w.heap.size)
    (hK : ∀ v' w', Own TK w' B v' (l ++ [y]) → w.grownBy w' v.ownBlock → (v'.ownBlock = v.ownBlock ∨ v'.ownBlock = some w.heap.size) → wpList Try.prog ops Q rest (a.put o.dst v') w') : wpList Try.prog ops Q (o :: rest) a w := by
  obtain ⟨i0, hi, hz0, hz1, hz2⟩ := info_parts TK.info
  have hsrc : ∀ j u, (TK.cs [y])[j]? = some u → w.cell? ((⟨b, 0, none⟩ : Addr).add j) = some u := fun j u hj => by
    have e : (⟨b, 0, none⟩ : Addr).add j = ⟨b, j, none⟩ := by unfold Addr.add; split <;> simp_all
    have e2 : TK.cs [y] = y.cells.toList := by simp [Knd.cs]; rfl
    rw [e2] at hj
    rw [e, hb.cell, ← hj]
    exact (Array.getElem?_toList).symm
  have hby : (l.length + 1) * 32 ≤ 140737488355328 := by omega
  obtain ⟨v', w', hrun, h1, h2, _⟩ := run_append_own (P := Try.prog) w B TK.s o.type TK.e i0 TK.z TK.k TK.by_ TK.hs hi hz0 hz1 hz2 TK.hz TK.pos v l.length (TK.cs l) hown ⟨b, 0, none⟩ 1 1 (TK.cs [y]) (by rw [cs_length]; rfl) hsrc (cs_one TK [y]) (by unfold maxLen; omega) hby b4
  have hw : v'.ownBlock = v.ownBlock ∨ v'.ownBlock = some w.heap.size := by
    rcases hown.2 with ⟨rfl, hn⟩ | ⟨g, cap, cur, rfl, hB, hg', hnc, hm, hcs, htake⟩
    · have hr := run_append_nil (P := Try.prog) w TK.s o.type TK.e i0 TK.z TK.hs hi hz0 ⟨b, 0, none⟩ 1 1 (TK.cs [y]) (by rw [cs_length, hz1]; rfl) hsrc (by omega) (by omega) (by rw [hz2]; decide)
      rw [hrun] at hr
      have hv := (Result.ok.inj hr).1
      exact Or.inr (by rw [hv]; rfl)
    · by_cases hroom : l.length + 1 ≤ cap
      · obtain ⟨w'', hr, _⟩ := run_append_fits (P := Try.prog) w B TK.s o.type TK.e i0 TK.k TK.hs hi hz1 g l.length cap (TK.cs l) hown ⟨b, 0, none⟩ 1 1 (TK.cs [y]) (by rw [cs_length]; rfl) hsrc (cs_one TK [y]) hroom
        rw [hrun] at hr
        have hv := (Result.ok.inj hr).1
        exact Or.inl (by rw [hv]; rfl)
      · have hr := run_append_grow (P := Try.prog) w TK.s o.type TK.e i0 TK.z TK.hs hi hz0 ⟨g, 0, none⟩ l.length cap (TK.cs l) (by rw [cs_length, hz1]) (fun j u hj => World.ownsRow.cells hown rfl j u hj) ⟨b, 0, none⟩ 1 1 (TK.cs [y]) (by rw [cs_length, hz1]; rfl) hsrc (by omega) (by omega) (by rw [hz2]; exact growslice_fits (by omega) hby)
        rw [hrun] at hr
        have hv := (Result.ok.inj hr).1
        exact Or.inr (by rw [hv]; rfl)
  refine wpList_plain hg fun _ hK' => ?_
  unfold Oper.wp
  simp [execOp, hop, resolve, invoke, builtin, hs, hx, hrun, Result.andThen]
  refine hK' _ _ (hK v' w' ?_ h2 hw)
  unfold Own
  rw [cs_append, List.length_append]
  exact h1
set_option maxHeartbeats 4000000 in
/-- at the end -/
theorem ins_end (v : Value) (ps : List Pt) (B vb : Nat) (y : Pt) (w : World) (h : Own TK w B v ps) (hv : Blk w vb y.cells 49) (hlen : ps.length ≤ 1000000) (hBs : B ≤ w.heap.size) :
    Calls Try.prog 71 #[v, .int .i64 (ps.length : Int), .slice (some ⟨vb, 0, none⟩) 1 1] w fun e w' =>
      ∃ v', e = .returned v' ∧ Own TK w' B v' (ps ++ [y]) ∧ w.grownBy w' v.ownBlock ∧ (v'.ownBlock = v.ownBlock ∨ v'.ownBlock = some w.heap.size) := by
  obtain ⟨sa, sc, hvs, hsc, hsc2⟩ : ∃ sa sc, v = .slice sa ps.length sc ∧ ps.length ≤ sc ∧ sc ≤ 9223372036854775807 := by
    rcases h.forms with ⟨rfl, rfl⟩ | ⟨g, c, rfl, _, _, hn, hm⟩
    · exact ⟨none, 0, rfl, Nat.zero_le _, by omega⟩
    · exact ⟨_, c, rfl, hn, by unfold maxLen at hm; omega⟩
  subst hvs
  have H : Hid (Own TK w B (.slice sa ps.length sc) ps) := h
  clear h
  obtain ⟨n, hn⟩ : ∃ n, ps.length = n := ⟨_, rfl⟩
  rw [hn] at hsc hlen H
  rw [hn]
  by_cases hs : sc = n
  · subst hs
    go_enter Try.func71, Try.ntmps71
    go_wp2_with (at_builtin; refine app_where _ rfl _ _ rfl B _ ps rfl H.out vb y rfl hv (by omega) hBs ?_)
    intro v' W' O' g' x'
    go_wp2_with fail
    go_ret
    exact ⟨_, rfl, O', g', x'⟩
  · have hs' : ¬ n = sc := fun e => hs e.symm
    go_enter Try.func71, Try.ntmps71
    go_wp2_with (at_builtin; refine app_where _ rfl _ _ rfl B _ ps rfl H.out vb y rfl hv (by omega) hBs ?_)
    intro v' W' O' g' x'
    go_wp2_with fail
    go_ret
    exact ⟨_, rfl, O', g', x'⟩
theorem ins_any (v : Value) (ps : List Pt) (B vb i : Nat) (y : Pt) (w : World) (h : Own TK w B v ps) (hi : i ≤ ps.length) (hv : Blk w vb y.cells 49) (hne : v.ownBlock ≠ some vb) (hlen : ps.length ≤ 1000000) (hBs : B ≤ w.heap.size) :
    Calls Try.prog 71 #[v, .int .i64 (i : Int), .slice (some ⟨vb, 0, none⟩) 1 1] w fun e w' =>
      ∃ v', e = .returned v' ∧ Own TK w' B v' (ps.take i ++ y :: ps.drop i) ∧ w.grownBy w' v.ownBlock ∧ (v'.ownBlock = v.ownBlock ∨ v'.ownBlock = some w.heap.size) := by
  by_cases he : i = ps.length
  · subst he
    rw [List.take_length, List.drop_length]
    exact ins_end v ps B vb y w h hv hlen hBs
  · rcases h.forms with ⟨rfl, rfl⟩ | ⟨g, c, rfl, _, _, hn, hm⟩
    · simp at hi; exact absurd hi (by simpa using he)
    · have hg : (Value.slice (some ⟨g, 0, none⟩) ps.length c).ownBlock = some g := rfl
      rw [hg] at hne ⊢
      by_cases hr : ps.length + 1 ≤ c
      · exact ins_shift ps B g c vb i y w h (by omega) hr hv (fun e => hne (by rw [e]))
      · exact ins_grow ps B g c vb i y w h (by omega) (by omega) hv hlen hBs
end Go.Proofs.Ytlbpapngcgnepaa.fri
