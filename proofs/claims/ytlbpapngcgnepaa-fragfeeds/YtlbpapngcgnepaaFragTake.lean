/- What frag.take answers. -/
import Derived.Test.YtlbpapngcgnepaaFragFor
import Derived.Test.YtlbpapngcgnepaaFragHas
import Derived.Test.YtlbpapngcgnepaaFragPut
import Derived.Test.YtlbpapngcgnepaaFragWhole
import Derived.Test.YtlbpapngcgnepaaFragJoined
import Derived.Test.YtlbpapngcgnepaaJoinC
import Derived.Deep.DeepCutAuto
namespace Go.Proofs.Ytlbpapngcgnepaa.frt
open Go.ChangeShapes Go.WideShapes Go.ChangeAt Go.RowKit Go.BigFrame
open Go.Proofs.Ytlbpapngcgnepaa Go.Proofs.Ytlbpapngcgnepaa.ipb Go.Proofs.Ytlbpapngcgnepaa.boxes Go.Proofs.Ytlbpapngcgnepaa.ipr Go.Proofs.Ytlbpapngcgnepaa.frb Go.Proofs.Ytlbpapngcgnepaa.frp Go.Proofs.Ytlbpapngcgnepaa.pl Go.Proofs.Ytlbpapngcgnepaa.frd Go.Proofs.Ytlbpapngcgnepaa.frx Go.Proofs.Ytlbpapngcgnepaa.frh Go.Proofs.Ytlbpapngcgnepaa.frf2 Go.Proofs.Ytlbpapngcgnepaa.frha Go.Proofs.Ytlbpapngcgnepaa.frpu Go.Proofs.Ytlbpapngcgnepaa.frw Go.Proofs.Ytlbpapngcgnepaa.frj
open Go.Proofs.Ytlbpapngcgnepaa.rws (Own Knd)

/-- the part of a packet -/
def ptOf (p : Pk) : Pt := ⟨8 * p.st, p.d, !p.mo⟩
/-- a heap's head, once a part at 0 is put in -/
def hdOf (h : Hd) (p : Pk) : Hd := if 8 * p.st = 0 then { h with tos := p.tos, li := p.li, o := p.o } else h
/-- without the heap at i -/
def wo (L : List Hp) (i : Nat) : List Hp := L.take i ++ L.drop (i + 1)
/-- what take tells, of the pool L1 with the packet's heap h at i -/
structure Tk where
  L : List Hp
  q : Pk
  ok : Bool
  e : Int
def takeAt (L : List Hp) (i : Nat) (h : Hp) (p : Pk) : Tk :=
  if h.ps.any (ptb (ptOf p)) = true then ⟨L, zeroP, false, 0⟩
  else if rfs h.ps (ptOf p) ≠ 0 then ⟨wo L i, zeroP, false, rfs h.ps (ptOf p)⟩
  else if whole (putIn h.ps (ptOf p)) = true then ⟨wo L i, jp (hdOf h.h p) (putIn h.ps (ptOf p)), true, 0⟩
  else ⟨L.set i ⟨hdOf h.h p, putIn h.ps (ptOf p)⟩, zeroP, false, 0⟩
theorem fnd_lt (n : Nm) : ∀ (l : List Hd) (i : Nat), 0 ≤ fnd n l i → ∃ k, fnd n l i = ((i + k : Nat) : Int) ∧ k < l.length
  | [], i, h => by simp [fnd] at h
  | y :: r, i, h => by
    simp only [fnd] at h ⊢
    by_cases hy : y.nm.eq n = true
    · rw [if_pos hy]; exact ⟨0, by simp, by simp⟩
    · rw [if_neg hy] at h ⊢
      obtain ⟨k, h1, h2⟩ := fnd_lt n r (i + 1) h
      exact ⟨k + 1, by rw [h1]; congr 1; omega, by simp; omega⟩
theorem for_lt (L : List Hp) (p : Pk) : ∃ i : Nat, forAt L p = (i : Int) ∧ i < (forL L p).length := by
  unfold forAt forL
  by_cases h : 0 ≤ fnd (pnm p) (L.map (·.h)) 0
  · rw [if_pos h, if_pos h]
    obtain ⟨k, h1, h2⟩ := fnd_lt _ _ _ h
    exact ⟨k, by rw [h1]; simp, by simpa using h2⟩
  · rw [if_neg h, if_neg h]
    exact ⟨_, rfl, by simp⟩
/-- what is asked of a pool -/
structure Good (L : List Hp) : Prop where
  n : L.length ≤ 16
  ps : ∀ h ∈ L, h.ps.length ≤ 64
  sm : ∀ h ∈ L, ∀ q ∈ h.ps, Sm q
theorem Good.for {L : List Hp} (h : Good L) (p : Pk) : (forL L p).length ≤ 17 ∧ (∀ x ∈ forL L p, x.ps.length ≤ 64) ∧ ∀ x ∈ forL L p, ∀ q ∈ x.ps, Sm q := by
  unfold forL
  have hn := h.n
  have key : ∀ x, x ∈ (if L.length = 16 then L.drop 1 else L) ++ [newH p] → x ∈ L ∨ x = newH p := fun x hx => by
    rcases List.mem_append.1 hx with hx | hx
    · split at hx
      · exact Or.inl (List.mem_of_mem_drop hx)
      · exact Or.inl hx
    · simp at hx; exact Or.inr hx
  split
  · exact ⟨by omega, h.ps, h.sm⟩
  · refine ⟨?_, fun x hx => ?_, fun x hx q hq => ?_⟩
    · have : (if L.length = 16 then L.drop 1 else L).length ≤ 16 := by
        split
        · rw [List.length_drop]; omega
        · omega
      rw [List.length_append, List.length_singleton]; omega
    · rcases key x hx with hx | rfl
      · exact h.ps x hx
      · simp [newH]
    · rcases key x hx with hx | rfl
      · exact h.sm x hx q hq
      · simp [newH] at hq
theorem wo_sub {α : Type} (Q : List α) (i : Nat) : (Q.take i ++ Q.drop (i + 1)).Sublist Q := by
  have e : Q.drop (i + 1) = (Q.drop i).drop 1 := by rw [List.drop_drop]
  have h := List.Sublist.append (List.Sublist.refl (Q.take i)) (List.drop_sublist 1 (Q.drop i))
  rw [List.take_append_drop, ← e] at h
  exact h
theorem own_ne_kind {α : Type} {K : Knd α} {w : World} {B b : Nat} {v : Value} {l : List α} {F : Array Value} {t : TypeId} (h : Own K w B v l) (hb : Blk w b F t) (ht : t ≠ K.e) : v.ownBlock ≠ some b := by
  intro e
  obtain ⟨c, hc⟩ := own_kind h b e
  have hb' : w.heap[b]? = some (.cells F t (0, 0)) := hb
  rw [hc] at hb'
  have := Option.some.inj hb'
  simp only [Obj.cells.injEq] at this
  exact ht this.2.1.symm
/-- a pool stands while a packet's block turns -/
theorem Pool.but {w w' : World} {B b : Nat} {v : Value} {Q : List Hq} {F : Array Value} (h : Pool w B v Q) (hb : Blk w b F 24) (u : But b w w') : Pool w' B v Q :=
  ⟨h.row.but u (own_ne_kind h.row hb (by decide)), fun q hq => (h.part q hq).but u (own_ne_kind (h.part q hq) hb (by decide)), h.apart⟩
/-- results: a slot, a block, two slots -/
theorem blk_ret4 {fn : Func} {t1 p t3 t4 : Tmp} {ty : TypeId} {R : Ending → World → Prop} {a : Act} {W : World} (h : fn.results = #[.tmp t1, .cell p ty, .tmp t3, .tmp t4]) (hd : a.defers = []) (b : Nat) (F : Array Value) (t : TypeId) (hp : a.tmps.getD p undef = .pointer (some ⟨b, 0, none⟩)) (k : Blk W b F t)
    (d : TypeDesc) (hu : Try.prog.underlying ty = some d) (hdd : wideD d = true) (n : Nat) (hi : (Try.prog.info? ty).map (·.size) = some n) (hn : F.size = n)
    (hR : R (.returned (.tuple #[a.tmps.getD t1 undef, .agg F, a.tmps.getD t3 undef, a.tmps.getD t4 undef])) W) : bodyPost Try.prog fn R .ret a W := by
  refine bodyPost_ret (v := .tuple #[a.tmps.getD t1 undef, .agg F, a.tmps.getD t3 undef, a.tmps.getD t4 undef]) ?_ hd hR
  have hp' : a.tmps[p]?.getD undef = .pointer (some ⟨b, 0, none⟩) := by simpa using hp
  have hl := run_loadVar_row (P := Try.prog) W b t ty F (0, 0) d k hu (by cases d <;> first | rfl | cases hdd) (by rw [hn]; exact hi)
  simp [results, h, Result.andThen, hp', asAddr, hl]
/-- a packet is laid into a block, cell by cell -/
def putP (w : World) (b : Nat) (J : Pk) : World :=
  ((((((((((w.setCell ⟨b, 0, none⟩ (.int .i64 J.tos)).setCell ⟨b, 1, none⟩ (.int .i64 J.id)).setCell ⟨b, 2, none⟩ (.bool J.wh)).setCell ⟨b, 3, none⟩ (.bool J.mo)).setCell ⟨b, 4, none⟩ (.int .i64 J.st)).setCell ⟨b, 5, none⟩ (.int .i64 J.li)).setCell ⟨b, 6, none⟩ (.int .i64 J.pr)).setCell ⟨b, 7, none⟩ (.int .u32 J.fr)).setCell ⟨b, 8, none⟩ (.int .u32 J.to)).setCell ⟨b, 9, none⟩ (.string J.o)).setCell ⟨b, 10, none⟩ (.string J.d)
theorem But.trans {b : Nat} {w W W' : World} (x : But b w W) (y : But b W W') : But b w W' :=
  ⟨y.os.trans x.os, y.tape.trans x.tape, y.output.trans x.output, y.size.trans x.size, fun j hj => (y.block j hj).trans (x.block j hj)⟩
theorem putP_blk {w : World} {b : Nat} {t : TypeId} (h : Blk w b zeroP.cells t) (J : Pk) : Blk (putP w b J) b J.cells t ∧ But b w (putP w b J) := by
  have hh := ((((((((((h.setCell 0 (.int .i64 J.tos)).setCell 1 (.int .i64 J.id)).setCell 2 (.bool J.wh)).setCell 3 (.bool J.mo)).setCell 4 (.int .i64 J.st)).setCell 5 (.int .i64 J.li)).setCell 6 (.int .i64 J.pr)).setCell 7 (.int .u32 J.fr)).setCell 8 (.int .u32 J.to)).setCell 9 (.string J.o)).setCell 10 (.string J.d)
  simp only [zeroP, List.setIfInBounds_toArray, List.set_cons_zero, List.set_cons_succ] at hh
  refine ⟨hh, ?_⟩
  unfold putP
  exact But.trans (But.trans (But.trans (But.trans (But.trans (But.trans (But.trans (But.trans (But.trans (But.trans (but_setCell _ b 0 _) (but_setCell _ b 1 _)) (but_setCell _ b 2 _)) (but_setCell _ b 3 _)) (but_setCell _ b 4 _)) (but_setCell _ b 5 _)) (but_setCell _ b 6 _)) (but_setCell _ b 7 _)) (but_setCell _ b 8 _)) (but_setCell _ b 9 _)) (but_setCell _ b 10 _)
set_option maxRecDepth 20000 in
set_option maxHeartbeats 8000000 in
theorem take_any (v : Value) (Q : List Hq) (p : Pk) (B : Nat) (w : World) (h : Pool w B v Q) (hg : Good (Q.map Hq.p)) (hB : B ≤ w.heap.size) (hs : Sm (ptOf p)) :
    ∃ (i : Nat) (hp : Hp), forAt (Q.map Hq.p) p = (i : Int) ∧ (forL (Q.map Hq.p) p)[i]? = some hp ∧
    Calls Try.prog 26 #[v, .agg p.cells] w fun e w' => ∃ v' Q', e = .returned (.tuple #[v', .agg (takeAt (forL (Q.map Hq.p) p) i hp p).q.cells, .bool (takeAt (forL (Q.map Hq.p) p) i hp p).ok, .int .i64 (takeAt (forL (Q.map Hq.p) p) i hp p).e]) ∧ Pool w' B v' Q' ∧ Q'.map Hq.p = (takeAt (forL (Q.map Hq.p) p) i hp p).L ∧ Below B w w' := by
  obtain ⟨i, hi1, hi2⟩ := for_lt (Q.map Hq.p) p
  obtain ⟨hp, hhp⟩ : ∃ hp, (forL (Q.map Hq.p) p)[i]? = some hp := ⟨_, List.getElem?_eq_getElem hi2⟩
  refine ⟨i, hp, hi1, hhp, ?_⟩
  obtain ⟨g1, g2, g3⟩ := hg.for p
  have hps := g2 hp (List.mem_of_getElem? hhp)
  have hsm := g3 hp (List.mem_of_getElem? hhp)
  have CF := fun u (hu : Pool u B v Q) (hb : B ≤ u.heap.size) => for_any v Q p B u hu (by have := hg.n; simpa using this) hb
  rw [hi1] at CF
  have F0 := Blk.new w p.cells 24
  have b0 := (Below.refl w.heap.size w).alloc (Nat.le_refl _) (.cells p.cells 24)
  generalize forL (Q.map Hq.p) p = L at *
  clear hi1 hi2 g2 g3 hg
  have P1 := Blk.newAt (w.alloc (.cells p.cells 24)) zeroP.cells 24 (b := w.heap.size + 1) (by simp)
  have F1 := F0.alloc (.cells zeroP.cells 24)
  have b1 := b0.alloc b0.size (.cells zeroP.cells 24)
  have h1 := h.kept b1
  have hvl : ∀ k, v.ownBlock = some k → k < w.heap.size := fun k hk => (World.ownsRow.lt h.row k hk).2
  have C1 := CF _ h1 (Nat.le_trans hB b1.size)
  obtain ⟨T, HT⟩ : ∃ T, Hid (takeAt L i hp p = T) := ⟨_, rfl⟩
  rw [HT.out]
  go_enter Try.func26, Try.ntmps26
  go_wp2_with (refine blk_load _ rfl 24 _ rfl w.heap.size rfl _ _ F1 _ Try.underlying24 rfl 11 pk_info rfl ?_)
  refine C1.mono ?_
  rintro e w2 ⟨v2, Q2, rfl, h2, hL2, gr2⟩
  have F2 : Blk w2 w.heap.size p.cells 24 := (gr2.block _ F1.lt (fun e => by have := hvl _ e.symm; omega)).trans F1
  have P2 : Blk w2 (w.heap.size + 1) zeroP.cells 24 := (gr2.block _ P1.lt (fun e => by have := hvl _ e.symm; omega)).trans P1
  have b2 : Below B w w2 := (b1.mono hB).trans (grown_below h1 gr2 (Nat.le_trans hB b1.size))
  clear C1 CF F0 F1 P1 b0 gr2 h1
  -- the heap at i
  obtain ⟨q, hq, rfl⟩ : ∃ q, Q2[i]? = some q ∧ q.p = hp := by
    rw [← hL2, List.getElem?_map, Option.map_eq_some_iff] at hhp
    obtain ⟨q, h1, h2⟩ := hhp
    exact ⟨q, h1, h2⟩
  have hil := (List.getElem?_eq_some_iff.1 hq).1
  obtain ⟨g, cap, hv2, hg0, hg1, hnc, hmx, hcells⟩ := h2.row.form (by simp; omega)
  subst hv2
  have hX : (Q2.map (·.v)).length = Q2.length := by simp
  rw [hX] at h2 hnc
  have hc7 : w2.cell? ⟨g, i * 8 + 7, none⟩ = some q.v.sl := hcells i q.v (by rw [List.getElem?_map, hq]; rfl) 7 (by decide)
  have hn16 : Q2.length ≤ 17 := by rw [← hL2] at g1; simpa using g1
  have hil' : (i : Int) < (Q2.length : Int) := by omega
  have hU := Blk.new w2 #[.int .i64 (8 * p.st), .string p.d, .bool !p.mo] 49
  have bU := (Below.refl w2.heap.size w2).alloc (Nat.le_refl _) (.cells #[.int .i64 (8 * p.st), .string p.d, .bool !p.mo] 49)
  have h3 := h2.kept bU
  have F3 := F2.alloc (.cells #[.int .i64 (8 * p.st), .string p.d, .bool !p.mo] 49)
  have P3 := P2.alloc (.cells #[.int .i64 (8 * p.st), .string p.d, .bool !p.mo] 49)
  have b3 := b2.trans (bU.mono (Nat.le_trans hB (Nat.le_of_lt (Nat.lt_trans (Nat.lt_succ_self _) P2.lt))))
  have d7 : (w2.alloc (.cells #[.int .i64 (8 * p.st), .string p.d, .bool !p.mo] 49)).cell? ⟨g, i * 8 + 7, none⟩ = some q.v.sl := (bU.cell (p := ⟨g, i * 8 + 7, none⟩) hg1).trans hc7
  have hgU : g < (w2.alloc (.cells #[.int .i64 (8 * p.st), .string p.d, .bool !p.mo] 49)).heap.size := Nat.lt_of_lt_of_le hg1 bU.size
  have s0 := hs.a0
  have s1 := hs.a1
  have hst0 : 0 ≤ 8 * p.st := s0
  have hst1 : 8 * p.st ≤ 1000000 := s1
  have c2 := F2.cell
  have l2 := F2.lt
  have hw2 : w2.heap.size < (w2.alloc (.cells #[.int .i64 (8 * p.st), .string p.d, .bool !p.mo] 49)).heap.size := hU.lt
  clear hcells
  have hpart := h3.part q (List.mem_of_getElem? hq)
  have hq2 : ∀ k, q.v.sl.ownBlock = some k → k < w2.heap.size := fun k hk => (World.ownsRow.lt (h2.part q (List.mem_of_getElem? hq)) k hk).2
  clear s0 s1
  go_upto_region 4 with fail
  generalize w2.alloc (.cells #[.int .i64 (8 * p.st), .string p.d, .bool !p.mo] 49) = U at *
  have nn := ab.ne U
  have cp := ab.cells hU
  have e7 := ab.cell d7 hgU
  have hrd := Own.rd hpart
  have CH := fun x : cls.In (ab.Ab U) => has_any q.v.sl q.ps (ptOf p) x.W (hrd.below x.h)
  have CR := fun u (hu : Below U.heap.size U u) => ref_any q.v.sl q.ps (ptOf p) u (hrd.below hu) hsm hs
  obtain ⟨A, hA⟩ : ∃ A, Hid (q.ps.any (ptb (ptOf p)) = A) := ⟨_, rfl⟩
  obtain ⟨R, hR⟩ : ∃ R, Hid (rfs q.ps (ptOf p) = R) := ⟨_, rfl⟩
  rw [hA.out] at CH
  rw [hR.out] at CR
  have hqp : q.p.ps = q.ps := rfl
  have hT1 : A = true → T = ⟨L, zeroP, false, 0⟩ := fun hh => by
    rw [← HT.out]; unfold takeAt; rw [hqp, hA.out, if_pos hh]
  have hT2 : A = false → ¬ R = 0 → T = ⟨wo L i, zeroP, false, R⟩ := fun hh hr => by
    rw [← HT.out]; unfold takeAt; rw [hqp, hA.out, if_neg (by rw [hh]; decide), hR.out, if_pos hr]
  clear hc7 c2 d7
  refine ab.region (by kernel_rfl) (by kernel_rfl) ?_
  repeat (go_big_quiet_step ((go_at_call 31; exact ab.call (CH _))))
  refine wpQuiet_nil ?_
  intro _ hx
  obtain ⟨y, rfl⟩ := hx
  have F4 := F3.below y.h F3.lt
  have P4 := P3.below y.h P3.lt
  have h4 := h3.kept y.h
  have U4 := hU.below y.h hU.lt
  have b4 := b3.trans (Below.mono y.h (Nat.le_trans hB b3.size))
  have hBw : B ≤ w.heap.size + 1 := by omega
  have f7 := e7 y
  cases A with
  | true =>
    have e := hT1 rfl
    subst e
    clear hT1 hT2 CH CR HT hA hR cp e7 nn
    go_wp2_with (refine blk_store _ rfl 24 _ _ rfl (w.heap.size + 1) zeroP.cells rfl rfl _ _ P4 11 pk_info rfl rfl (pk_one zeroP) ?_)
    intro W5 k5 u5
    have h5 := Pool.but h4 P4 u5
    have b5 := u5.below b4 hBw
    clear u5 h4 b4 F4 P4 U4 f7
    go_wp2_with fail
    exact blk_ret4 rfl rfl _ _ _ rfl k5 _ Try.underlying24 rfl 11 pk_info rfl ⟨_, rfl, Q2, h5, hL2, b5⟩
  | false =>
    have hT3 : R = 0 → takeAt L i q.p p = T := fun _ => HT.out
    have nn2 := ab.ne y.W
    have cp2 := ab.cells U4
    have g7 := ab.cell f7 (Nat.lt_of_lt_of_le hgU (Below.size y.h))
    have CR2 := fun x : cls.In (ab.Ab y.W) => CR x.W (Below.trans y.h (Below.mono x.h (Below.size y.h)))
    clear hT1 CH CR cp e7 nn
    go_upto_region 6 with fail
    refine ab.region (by kernel_rfl) (by kernel_rfl) ?_
    repeat (go_big_quiet_step ((go_at_call 54; exact ab.call (CR2 _))))
    refine wpQuiet_nil ?_
    intro _ hx
    obtain ⟨z, rfl⟩ := hx
    have F5 := F4.below z.h F4.lt
    have P5 := P4.below z.h P4.lt
    have h5 := h4.kept z.h
    have U5 := U4.below z.h U4.lt
    have b5 := b4.trans (Below.mono z.h (Nat.le_trans hB b4.size))
    have k7 := g7 z
    clear F4 P4 h4 U4 b4 g7 cp2 nn2 CR2 f7 F3 P3 h3 hU b3 F2 P2 b2 bU h2 hpart hrd
    by_cases hR0 : R = 0
    · have hown := h5.part q (List.mem_of_getElem? hq)
      have CP := fun u (hu : Own TK u B q.v.sl q.ps) (hb : B ≤ u.heap.size) => put_any q.v.sl q.ps (ptOf p) B u hu (by have := hps; show q.p.ps.length ≤ _; omega) hb
      have hBz : B ≤ z.W.heap.size := Nat.le_trans hB b5.size
      have cU := U5.cell
      have hr5 : Own HK z.W B (.slice (some ⟨g, 0, none⟩) (Q2.map (·.v)).length cap) (Q2.map (·.v)) := by rw [hX]; exact h5.row
      have k7f : z.W.frozen? ⟨g, i * 8 + 7, none⟩ = false := World.ownsRow.frozenAt hr5 _
      have hgz : g < z.W.heap.size := (World.ownsRow.lt h5.row g rfl).2
      have hgn : some g ≠ q.v.sl.ownBlock := fun e => ne_kind h5.row hown rfl e.symm
      have hTT := hT3 hR0
      clear hT2 hT3 HT
      subst hR0
      have CP1 : Calls Try.prog 56 #[q.v.sl, .agg (ptOf p).cells] z.W.drew fun e w' => ∃ a n c, e = .returned (.slice a n c) ∧ Own TK w' B (.slice a n c) (putIn q.ps (ptOf p)) ∧ z.W.grownBy w' q.v.sl.ownBlock ∧ ((Value.slice a n c).ownBlock = q.v.sl.ownBlock ∨ ∃ k, (Value.slice a n c).ownBlock = some k ∧ z.W.heap.size ≤ k) := by
        refine (CP z.W.drew hown.drew hBz).mono ?_
        rintro e w6 ⟨v6, rfl, o6, g6, t6⟩
        rcases o6.forms with ⟨rfl, _⟩ | ⟨g', c', rfl, _⟩
        · exact ⟨_, _, _, rfl, o6, ⟨g6.os, g6.tape, g6.output, g6.size, g6.block⟩, t6⟩
        · exact ⟨_, _, _, rfl, o6, ⟨g6.os, g6.tape, g6.output, g6.size, g6.block⟩, t6⟩
      clear CP
      go_upto_region 9 with fail
      go_cut [] (fun wx => ∃ a6 n6 c6, Pool wx B (.slice (some ⟨g, 0, none⟩) Q2.length cap) (Q2.set i ⟨⟨q.v.h, a6, n6, c6⟩, putIn q.ps (ptOf p)⟩) ∧ Blk wx w.heap.size p.cells 24 ∧ Blk wx (w.heap.size + 1) zeroP.cells 24 ∧ Blk wx w2.heap.size #[.int .i64 (8 * p.st), .string p.d, .bool !p.mo] 49 ∧ Below B w wx)
      case first =>
        go_region_with (go_at_call 56; refine CP1.mono ?_; rintro e w6 ⟨a6, n6, c6, rfl, o6, g6, t6⟩; have k6 := (World.cell?_of_block (a := ⟨g, i * 8 + 7, none⟩) (g6.block g hgz hgn)).trans k7; have f6 := (World.frozen?_of_block (a := ⟨g, i * 8 + 7, none⟩) (g6.block g hgz hgn)).trans k7f)
        all_goals
          have P7 := pp.Pool.put h5 rfl hq g6 o6 t6
          have hgF : w.heap.size ≠ g := fun e => own_ne_kind h5.row F5 (by decide) (by rw [e]; rfl)
          have hgP : w.heap.size + 1 ≠ g := fun e => own_ne_kind h5.row P5 (by decide) (by rw [e]; rfl)
          have hgU : w2.heap.size ≠ g := fun e => own_ne_kind h5.row U5 (by decide) (by rw [e]; rfl)
          go_wp2_with fail
          go_meet
          have u6 := but_setCell w6 g (i * 8 + 7) (.slice a6 n6 c6)
          refine ⟨a6, n6, c6, P7, ?_, ?_, ?_, ?_⟩
          · exact (u6.block _ hgF).trans ((g6.block _ F5.lt (fun e => own_ne_kind hown F5 (by decide) e.symm)).trans F5)
          · exact (u6.block _ hgP).trans ((g6.block _ P5.lt (fun e => own_ne_kind hown P5 (by decide) e.symm)).trans P5)
          · exact (u6.block _ hgU).trans ((g6.block _ U5.lt (fun e => absurd (hq2 _ e.symm) (Nat.lt_irrefl _))).trans U5)
          · exact u6.below (b5.trans ((Below.refl _ _).grown g6 hBz (fun k hk => (World.ownsRow.lt hown k hk).1))) hg0
      case rest =>
        obtain ⟨a6, n6, c6, P6, F6, Z6, U6, b6⟩ := hcut
        clear F5 P5 h5 U5 b5 k7 hown CP1 cU hr5 k7f hgz hgn
        obtain ⟨ps', hps'⟩ : ∃ ps', ps' = putIn q.ps (ptOf p) := ⟨_, rfl⟩
        rw [← hps'] at P6
        have hsm' : ∀ o ∈ ps', Sm o := fun o ho => by
          rw [hps'] at ho
          unfold putIn at ho
          rcases List.mem_append.1 ho with ho | ho
          · exact hsm o (List.mem_of_mem_take ho)
          · rcases List.mem_cons.1 ho with rfl | ho
            · exact hs
            · exact hsm o (List.mem_of_mem_drop ho)
        have hlen' : ps'.length ≤ 65 := by
          have := hps
          rw [hps']; unfold putIn
          rw [List.length_append, List.length_cons, List.length_take, List.length_drop]
          have e : q.p.ps = q.ps := rfl
          rw [e] at this
          omega
        have Hps : Hid (putIn q.ps (ptOf p) = ps') := hps'.symm
        clear hps'
        have hq6 : (Q2.set i ⟨⟨q.v.h, a6, n6, c6⟩, ps'⟩)[i]? = some ⟨⟨q.v.h, a6, n6, c6⟩, ps'⟩ := by rw [List.getElem?_set_self hil]
        have cU6 := U6.cell
        have lU6 := U6.lt
        go_upto_if 65 with fail
        go_cut [] (fun wx => Pool wx B (.slice (some ⟨g, 0, none⟩) Q2.length cap) (Q2.set i ⟨⟨hdOf q.v.h p, a6, n6, c6⟩, ps'⟩) ∧ Blk wx (w.heap.size + 1) zeroP.cells 24 ∧ Below B w wx)
        case first =>
          by_cases st0 : 8 * p.st = 0
          · have eh : hdOf q.v.h p = { q.v.h with tos := p.tos, li := p.li, o := p.o } := by unfold hdOf; rw [if_pos st0]
            have Hh : Hid (hdOf q.v.h p = { q.v.h with tos := p.tos, li := p.li, o := p.o }) := eh
            have hX6 : ((Q2.set i ⟨⟨q.v.h, a6, n6, c6⟩, ps'⟩).map (·.v)).length = Q2.length := by simp
            have hr6 : Own HK wc B (.slice (some ⟨g, 0, none⟩) ((Q2.set i ⟨⟨q.v.h, a6, n6, c6⟩, ps'⟩).map (·.v)).length cap) ((Q2.set i ⟨⟨q.v.h, a6, n6, c6⟩, ps'⟩).map (·.v)) := by rw [hX6]; exact P6.row
            have fz : ∀ o, wc.frozen? ⟨g, o, none⟩ = false := fun o => World.ownsRow.frozenAt hr6 o
            have hcl : ∀ c, c < 8 → wc.cell? ⟨g, i * 8 + c, none⟩ = (Hv.cells ⟨q.v.h, a6, n6, c6⟩)[c]? := fun c hc => hr6.cell (by rw [List.getElem?_map, hq6]; rfl) hc
            have e4 := hcl 4 (by omega)
            have e5 : ∀ u, (wc.setCell ⟨g, i * 8 + 4, none⟩ u).cell? ⟨g, i * 8 + 5, none⟩ = (Hv.cells ⟨q.v.h, a6, n6, c6⟩)[5]? := fun u => by
              rw [World.cell?_setCell_other (h := by intro hh; injection hh with _ h2 _; omega)]; exact hcl 5 (by omega)
            have e6 : ∀ u v, ((wc.setCell ⟨g, i * 8 + 4, none⟩ u).setCell ⟨g, i * 8 + 5, none⟩ v).cell? ⟨g, i * 8 + 6, none⟩ = (Hv.cells ⟨q.v.h, a6, n6, c6⟩)[6]? := fun u v => by
              rw [World.cell?_setCell_other (h := by intro hh; injection hh with _ h2 _; omega), World.cell?_setCell_other (h := by intro hh; injection hh with _ h2 _; omega)]; exact hcl 6 (by omega)
            have f4 := fz (i * 8 + 4)
            have f5 : ∀ u, (wc.setCell ⟨g, i * 8 + 4, none⟩ u).frozen? ⟨g, i * 8 + 5, none⟩ = false := fun u => by rw [World.frozen?_setCell]; exact fz _
            have f6 : ∀ u v, ((wc.setCell ⟨g, i * 8 + 4, none⟩ u).setCell ⟨g, i * 8 + 5, none⟩ v).frozen? ⟨g, i * 8 + 6, none⟩ = false := fun u v => by rw [World.frozen?_setCell, World.frozen?_setCell]; exact fz _
            have cF := F6.cell
            clear hcl fz hr6 eh
            go_wp2_with fail
            go_region
            have A4 := ph.Pool.head (hd := { q.v.h with tos := p.tos }) 4 (.int .i64 p.tos) P6 (by simp) hq6 (by omega) rfl
            rw [List.set_set] at A4
            have A5 := ph.Pool.head (hd := { q.v.h with tos := p.tos, li := p.li }) 5 (.int .i64 p.li) A4 (by simp) (List.getElem?_set_self hil) (by omega) rfl
            rw [List.set_set] at A5
            have A6 := ph.Pool.head (hd := { q.v.h with tos := p.tos, li := p.li, o := p.o }) 6 (.string p.o) A5 (by simp) (List.getElem?_set_self hil) (by omega) rfl
            rw [List.set_set] at A6
            have hgP : w.heap.size + 1 ≠ g := fun e => own_ne_kind P6.row Z6 (by decide) (by rw [e]; rfl)
            have Z9 := (but_setCell ((wc.setCell ⟨g, i * 8 + 4, none⟩ (.int .i64 p.tos)).setCell ⟨g, i * 8 + 5, none⟩ (.int .i64 p.li)) g (i * 8 + 6) (.string p.o)).blk ((but_setCell (wc.setCell ⟨g, i * 8 + 4, none⟩ (.int .i64 p.tos)) g (i * 8 + 5) (.int .i64 p.li)).blk ((but_setCell wc g (i * 8 + 4) (.int .i64 p.tos)).blk Z6 hgP) hgP) hgP
            have b9 := ((b6.setCell (p := ⟨g, i * 8 + 4, none⟩) hg0 (.int .i64 p.tos)).setCell (p := ⟨g, i * 8 + 5, none⟩) hg0 (.int .i64 p.li)).setCell (p := ⟨g, i * 8 + 6, none⟩) hg0 (.string p.o)
            generalize ((wc.setCell ⟨g, i * 8 + 4, none⟩ (.int .i64 p.tos)).setCell ⟨g, i * 8 + 5, none⟩ (.int .i64 p.li)).setCell ⟨g, i * 8 + 6, none⟩ (.string p.o) = W9 at A6 Z9 b9 ⊢
            clear e4 e5 e6 f4 f5 f6 cF A4 A5
            go_wp2_with fail
            go_meet
            exact ⟨by rw [Hh.out]; exact ⟨A6.row, A6.part, A6.apart⟩, Z9.drew, Below.drew b9⟩
          · have st0' : (8 * p.st == 0) = false := by simpa using st0
            have eh : hdOf q.v.h p = q.v.h := by unfold hdOf; rw [if_neg st0]
            have Hh : Hid (hdOf q.v.h p = q.v.h) := eh
            clear st0 eh
            go_wp2_with fail
            go_meet
            exact ⟨by rw [Hh.out]; exact P6, Z6, b6⟩
        case rest =>
          obtain ⟨P7, Z7, b7⟩ := hcut
          clear P6 F6 Z6 U6 b6 cU6 lU6 hq6
          have hq7 : (Q2.set i ⟨⟨hdOf q.v.h p, a6, n6, c6⟩, ps'⟩)[i]? = some ⟨⟨hdOf q.v.h p, a6, n6, c6⟩, ps'⟩ := List.getElem?_set_self hil
          have hm7 := List.mem_of_getElem? hq7
          have hX7 : ((Q2.set i ⟨⟨hdOf q.v.h p, a6, n6, c6⟩, ps'⟩).map (·.v)).length = Q2.length := by simp
          have hr7 : Own HK wc B (.slice (some ⟨g, 0, none⟩) ((Q2.set i ⟨⟨hdOf q.v.h p, a6, n6, c6⟩, ps'⟩).map (·.v)).length cap) ((Q2.set i ⟨⟨hdOf q.v.h p, a6, n6, c6⟩, ps'⟩).map (·.v)) := by rw [hX7]; exact P7.row
          have hv7 : ((Q2.set i ⟨⟨hdOf q.v.h p, a6, n6, c6⟩, ps'⟩).map (·.v))[i]? = some ⟨hdOf q.v.h p, a6, n6, c6⟩ := by rw [List.getElem?_map, hq7]; rfl
          have e7 : wc.cell? ⟨g, i * 8 + 7, none⟩ = some (.slice a6 n6 c6) := hr7.cell hv7 (i := 7) (by decide)
          have hpt := P7.part _ hm7
          have CC := fun u hu => whole_any (.slice a6 n6 c6) ps' u hu hsm'
          have hrd7 := Own.rd hpt
          go_wp2_with fail
          refine (CC _ hrd7).mono ?_
          rintro e w8 ⟨rfl, hb8⟩
          have P8 := P7.kept hb8
          have Z8 := Z7.below hb8 Z7.lt
          have b8 := b7.trans (hb8.mono (Nat.le_trans hB b7.size))
          clear P7 Z7 b7 CC hr7 e7 hpt hb8
          have hTW : whole ps' = true → T = ⟨wo L i, jp (hdOf q.v.h p) ps', true, 0⟩ := fun hw => by
            rw [← hTT]; unfold takeAt
            rw [show q.p.ps = q.ps from rfl, show q.p.h = q.v.h from rfl, hA.out, if_neg (by decide), hR.out, if_neg (by decide), Hps.out, if_pos hw]
          have hTN : whole ps' = false → T = ⟨L.set i ⟨hdOf q.v.h p, ps'⟩, zeroP, false, 0⟩ := fun hw => by
            rw [← hTT]; unfold takeAt
            rw [show q.p.ps = q.ps from rfl, show q.p.h = q.v.h from rfl, hA.out, if_neg (by decide), hR.out, if_neg (by decide), Hps.out, if_neg (by rw [hw]; decide)]
          clear hTT
          cases hwp : whole ps' with
          | false =>
            have e := hTN hwp
            subst e
            clear hTW hTN
            go_wp2_with (refine blk_store _ rfl 24 _ _ rfl (w.heap.size + 1) zeroP.cells rfl rfl _ _ Z8 11 pk_info rfl rfl (pk_one zeroP) ?_)
            intro W9 k9 u9
            have h9 := Pool.but P8 Z8 u9
            have b9 := u9.below b8 hBw
            clear u9 P8 b8 Z8
            go_wp2_with fail
            exact blk_ret4 rfl rfl _ _ _ rfl k9 _ Try.underlying24 rfl 11 pk_info rfl ⟨_, rfl, _, h9, by rw [List.map_set, hL2]; rfl, b9⟩
          | true =>
            have e := hTW hwp
            subst e
            clear hTW hTN
            have hX8 : ((Q2.set i ⟨⟨hdOf q.v.h p, a6, n6, c6⟩, ps'⟩).map (·.v)).length = Q2.length := by simp
            have hr8 : Own HK w8 B (.slice (some ⟨g, 0, none⟩) Q2.length cap) ((Q2.set i ⟨⟨hdOf q.v.h p, a6, n6, c6⟩, ps'⟩).map (·.v)) := P8.row
            have hpt8 := P8.part _ hm7
            have hdj : (dj ps').length ≤ 140737488355328 := by
              have key : ∀ l : List Pt, (∀ o ∈ l, Sm o) → (dj l).length ≤ l.length * 1000000 := by
                intro l
                induction l with
                | nil => intro _; simp [dj]
                | cons o r ih =>
                  intro hh
                  have h1 := (hh o (List.mem_cons_self)).d1
                  have h2 := ih fun x hx => hh x (List.mem_cons_of_mem _ hx)
                  have e : (dj (o :: r)).length = o.d.size + (dj r).length := by simp [dj]
                  rw [e, List.length_cons]; omega
              have := key ps' hsm'
              omega
            have CJ := fun u hu => joined_any ⟨hdOf q.v.h p, a6, n6, c6⟩ ps' u hu hdj
            have i8 : i * 8 = i * HK.k := rfl
            go_wp2_with (refine rws.elem_load HK _ rfl _ rfl B g Q2.length cap _ hr8 i _ rfl rfl _ hv7 _ rfl _ Try.underlying46 rfl ?_)
            refine (CJ _ (Own.rd hpt8)).mono ?_
            rintro e w10 ⟨rfl, hb10⟩
            have P10 := P8.kept hb10
            have Z10 := Z8.below hb10 Z8.lt
            have b10 := b8.trans (hb10.mono (Nat.le_trans hB b8.size))
            clear P8 Z8 b8 CJ hr8 hpt8 hb10
            go_upto_region 15 with fail
            have J11 := Blk.new w10 (jp (hdOf q.v.h p) ps').cells 24
            have hal := (Below.refl w10.heap.size w10).alloc (Nat.le_refl _) (.cells (jp (hdOf q.v.h p) ps').cells 24)
            have P11 := P10.kept hal
            have Z11 := Z10.below hal Z10.lt
            have b11 := b10.trans (hal.mono (Nat.le_trans hB b10.size))
            have hzj : w.heap.size + 1 < w10.heap.size := Z10.lt
            obtain ⟨J, hJ⟩ : ∃ J, J = jp (hdOf q.v.h p) ps' := ⟨_, rfl⟩
            have HJ : Hid (jp (hdOf q.v.h p) ps' = J) := hJ.symm
            rw [← hJ] at J11 P11 Z11 b11
            have CD := del_any ((Q2.set i ⟨⟨hdOf q.v.h p, a6, n6, c6⟩, ps'⟩).map (·.v)) B g cap i (w10.alloc (.cells J.cells 24)).drew (by rw [hX8]; exact P11.row) (by rw [hX8]; exact hil)
            rw [hX8] at CD
            rw [← hJ]
            clear hJ hal P10 Z10 b10
            generalize w10.alloc (.cells J.cells 24) = V at *
            have cJ := J11.cell
            have lJ := J11.lt
            have hi1 : IntKind.i64.wrap ((i : Int) + 1) = (i : Int) + 1 := by rw [IntKind.wrap_i64]; omega
            go_region_with (go_at_call 55; refine CD.mono ?_; rintro e w12 ⟨rfl, O12, g12⟩; have J12 : Blk w12 w10.heap.size J.cells 24 := (g12.block _ J11.lt (fun e => own_ne_kind P11.row J11 (by decide) e.symm)).trans J11; have Z12 : Blk w12 (w.heap.size + 1) zeroP.cells 24 := (g12.block _ Z11.lt (fun e => own_ne_kind P11.row Z11 (by decide) e.symm)).trans Z11; have cJ12 := J12.cell; have cZ12 := Z12.cell; have fZ12 := Z12.free)
            all_goals
              obtain ⟨K1, K2⟩ := putP_blk Z12 J
              change Exit.then _ _ _ _ (putP w12 (w.heap.size + 1) J)
              have P11d : Pool V.drew B (.slice (some ⟨g, 0, none⟩) Q2.length cap) (Q2.set i ⟨⟨hdOf q.v.h p, a6, n6, c6⟩, ps'⟩) := ⟨P11.row, P11.part, P11.apart⟩
              have h12 : Pool w12 B (.slice (some ⟨g, 0, none⟩) (Q2.length - 1) cap) ((Q2.set i ⟨⟨hdOf q.v.h p, a6, n6, c6⟩, ps'⟩).take i ++ (Q2.set i ⟨⟨hdOf q.v.h p, a6, n6, c6⟩, ps'⟩).drop (i + 1)) := Pool.less P11d g12 (wo_sub _ i) (by rw [List.map_append, List.map_take, List.map_drop]; exact O12)
              have b12 := b11.trans ((Below.drew (Below.refl _ _)).trans (grown_below P11d g12 (Nat.le_trans hB b11.size)))
              have h13 := Pool.but h12 Z12 K2
              have b13 := K2.below b12 hBw
              generalize putP w12 (w.heap.size + 1) J = W13 at K1 h13 b13 ⊢
              clear cJ12 cZ12 fZ12 J12 Z12 h12 b12 P11d K2 O12 g12 cJ CD
              have EL : ((Q2.set i ⟨⟨hdOf q.v.h p, a6, n6, c6⟩, ps'⟩).take i ++ (Q2.set i ⟨⟨hdOf q.v.h p, a6, n6, c6⟩, ps'⟩).drop (i + 1)).map Hq.p = wo L i := by
                rw [List.map_append, List.map_take, List.map_drop, List.map_set, hL2]
                unfold wo
                rw [List.take_set_of_le (Nat.le_refl i), List.drop_set_of_lt (Nat.lt_succ_self i)]
              go_wp2_with fail
              exact blk_ret4 rfl rfl _ _ _ rfl K1 _ Try.underlying24 rfl 11 pk_info rfl ⟨_, by rw [HJ.out]; rfl, _, h13, EL, b13⟩
    · have e := hT2 rfl hR0
      subst e
      have hR0' : (R != 0) = true := by simpa using hR0
      have CD := del_any (Q2.map (·.v)) B g cap i z.W (by rw [hX]; exact h5.row) (by omega)
      rw [hX] at CD
      clear hT2 hT3 HT hA hR
      go_wp2_with fail
      refine CD.mono ?_
      rintro e w6 ⟨rfl, O6, g6⟩
      have h6 : Pool w6 B (.slice (some ⟨g, 0, none⟩) (Q2.length - 1) cap) (Q2.take i ++ Q2.drop (i + 1)) := Pool.less h5 g6 (wo_sub Q2 i) (by rw [List.map_append, List.map_take, List.map_drop]; exact O6)
      have P6 : Blk w6 (w.heap.size + 1) zeroP.cells 24 := (g6.block _ P5.lt (fun e => own_ne_kind h5.row P5 (by decide) e.symm)).trans P5
      have b6 := b5.trans (grown_below h5 g6 (Nat.le_trans hB b5.size))
      clear CD O6 g6
      go_wp2_with (refine blk_store _ rfl 24 _ _ rfl (w.heap.size + 1) zeroP.cells rfl rfl _ _ P6 11 pk_info rfl rfl (pk_one zeroP) ?_)
      intro W7 k7' u7
      have h7 := Pool.but h6 P6 u7
      have b7 := u7.below b6 hBw
      clear u7 h6 b6 P6 F5 U5 k7 h5 b5 P5
      go_wp2_with fail
      exact blk_ret4 rfl rfl _ _ _ rfl k7' _ Try.underlying24 rfl 11 pk_info rfl ⟨_, rfl, _, h7, by rw [List.map_append, List.map_take, List.map_drop, hL2]; rfl, b7⟩
end Go.Proofs.Ytlbpapngcgnepaa.frt
