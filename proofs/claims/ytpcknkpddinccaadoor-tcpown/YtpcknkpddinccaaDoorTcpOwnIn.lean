/- The walk through custkeep.TcpOwn. -/
import Derived.Test.YtpcknkpddinccaaDoorTcpLives
import Derived.Test.YtpcknkpddinccaaDoorTcpSame
import Derived.Test.YtpcknkpddinccaaDoorTcpClone
import Derived.Test.YtpcknkpddinccaaDoorTcpMvWalk
namespace Go.Proofs.YtpcknkpddinccaaDoor.tcow
open Go.ChangeShapes Go.WideShapes Go.ChangeAt Go.RowKit Go.BigFrame
open Go.Proofs.YtpcknkpddinccaaDoor Go.Proofs.YtpcknkpddinccaaDoor.EM Go.Proofs.YtpcknkpddinccaaDoor.ethb Go.Proofs.YtpcknkpddinccaaDoor.ipb Go.Proofs.YtpcknkpddinccaaDoor.boxes Go.Proofs.YtpcknkpddinccaaDoor.wds Go.Proofs.YtpcknkpddinccaaDoor.tcb Go.Proofs.YtpcknkpddinccaaDoor.rwr Go.Proofs.YtpcknkpddinccaaDoor.tcm Go.Proofs.YtpcknkpddinccaaDoor.tcs Go.Proofs.YtpcknkpddinccaaDoor.tcl Go.Proofs.YtpcknkpddinccaaDoor.tccl
open Go.Proofs.YtpcknkpddinccaaDoor.rws (Knd Own)

/-- a row that may be written all over -/
def Wr (B : Nat) (u : World) (v : Value) (cap : Nat) : Prop := (v = .slice none 0 0 ∧ cap = 0) ∨ ∃ g n cur, v = .slice (some ⟨g, 0, none⟩) n cap ∧ n ≤ cap ∧ B ≤ g ∧ Blk u g cur OK.e ∧ cur.size = cap * 2 ∧ cap ≤ maxLen
theorem own_wr {w : World} {B : Nat} {v : Value} {l : List Opt} (h : Own OK w B v l) : ∃ cap, Wr B w v cap := by
  rcases h.2 with ⟨rfl, _⟩ | ⟨g, cap, cur, rfl, hB, hg, hnc, hm, hcs, _⟩
  · exact ⟨0, Or.inl ⟨rfl, rfl⟩⟩
  · exact ⟨cap, Or.inr ⟨g, _, cur, rfl, hnc, hB, hg, hcs, hm⟩⟩
set_option maxRecDepth 20000 in
set_option maxHeartbeats 8000000 in
theorem walk (h : Sh) (v : Value) (os : List Opt) (a b : Int) (w : World) (hr : Rd OK w v os) (hb : os.length * 24 ≤ 140737488351232) (hz : ∀ o ∈ os, o.d.size ≤ 140737488351232) :
    Calls Tryd.prog 7 #[.agg (h.cells v), .int .u32 a, .int .u32 b] w fun e w' => e = .returned (.bool true) ∧ Below w.heap.size w w' := by
  have C1 := fun u hu => clone_any v os u hu (by omega)
  have C2 := fun u hu => tcw.move_any h v os a b u hu (by omega) hz
  have EQ := fun u x y h1 h2 => equal_same u x y os h1 h2
  generalize mvh h a b = R at *
  generalize mvs h os b = S at *
  have F0 := Blk.new w (h.cells v) 25
  have d0 := (Below.refl w.heap.size w).alloc (Nat.le_refl _) (.cells (h.cells v) 25)
  have r0 := hr.below d0
  obtain ⟨sa, sc, rfl⟩ := hr.form
  clear hr hb hz
  generalize os.length = n at *
  have cf := F0.cell
  go_enter Tryd.func7, Tryd.ntmps7
  go_wp2_with fail
  refine (C1 _ r0).mono ?_
  rintro e w1 ⟨v1, rfl, o1, l1⟩
  have F1 := F0.below l1 F0.lt
  have d1 := d0.trans (l1.mono d0.size)
  have r1 := r0.below l1
  have q1 := Own.rd o1
  clear C1 F0 d0 r0 l1 o1 cf
  obtain ⟨sa1, sc1, e1⟩ := q1.form
  obtain ⟨m1, hm1⟩ : ∃ m1, m1 = os.length := ⟨_, rfl⟩
  rw [← hm1] at e1
  subst e1
  clear hm1
  have C2' := C2 _ r1
  clear C2
  go_wp2_with (refine blk_load _ rfl 25 _ rfl w.heap.size rfl _ _ F1 _ Tryd.underlying25 rfl 9 sg_info rfl ?_)
  refine C2'.mono ?_
  rintro e w2 ⟨v2, rfl, o2, l2⟩
  obtain ⟨cap, wr2⟩ := own_wr o2
  obtain ⟨sa2, sc2, e2⟩ := (Own.rd o2).form
  obtain ⟨m2, hm2⟩ : ∃ m2, m2 = S.length := ⟨_, rfl⟩
  rw [← hm2] at e2
  subst e2
  clear C2' o2 hm2
  have dA := (Below.refl w2.heap.size w2).alloc (Nat.le_refl _) (.cells (zeroS.cells (.slice none 0 0)) 25)
  go_upto_region 3 with (refine blk_store _ rfl 25 _ _ rfl w2.heap.size (R.cells (.slice sa2 m2 sc2)) rfl rfl _ _ (Blk.new w2 (zeroS.cells (.slice none 0 0)) 25) 9 sg_info rfl rfl (sg_one _ _ _ _) ?_; intro w3 X3 p3)
  have l3 := p3.below dA (Nat.le_refl _)
  have b3 : Below w1.heap.size w1 w3 := l2.trans (l3.mono l2.size)
  have c3 := X3.cell
  rcases wr2 with ⟨e, rfl⟩ | ⟨g, n2, cur, e, hnc, hB, hg, hcs, hm⟩
  · simp only [Value.slice.injEq] at e
    obtain ⟨rfl, rfl, rfl⟩ := e
    clear l2 l3 dA p3
    go_wp2_with fail
    go_loopg [26] 0 (fun g i wr => i = .int .i64 0 ∧ Below w1.heap.size w1 wr)
    case atStart => exact ⟨rfl, b3⟩
    case round =>
      obtain ⟨rfl, bel⟩ := hrel
      clear b3 c3 X3
      have d4 := d1.trans (bel.mono d1.size)
      have F4 := F1.below bel F1.lt
      have r4 := r1.below bel
      have q4 := q1.below bel
      clear bel
      go_wp2_with fail
      refine (lives _).mono ?_
      rintro e w5 ⟨rfl, l5⟩
      have d5 := d4.trans (l5.mono d4.size)
      have cF := (F4.below l5 F4.lt).cell
      have EQ5 := EQ w5 _ _ (r4.below l5) (q4.below l5)
      clear d4 F4 r4 q4 l5 EQ
      go_wp2_with fail
      refine EQ5.mono ?_
      rintro e w6 ⟨rfl, l6⟩
      have d6 := d5.trans (l6.mono d5.size)
      clear EQ5 cF d5 l6
      go_wp2_with fail
      go_ret
      exact ⟨rfl, d6⟩
  · simp only [Value.slice.injEq] at e
    obtain ⟨rfl, rfl, rfl⟩ := e
    have g3 := hg.below l3 hg.lt
    have hm' : sc2 ≤ 9223372036854775807 := by unfold maxLen at hm; omega
    clear l2 l3 dA p3 hg hm hnc
    go_wp2_with fail
    go_loopw [26] (fun i wr => ∃ (k : Nat) (cur : Array Value), i = .int .i64 (k : Int) ∧ k ≤ sc2 ∧ Blk wr g cur OK.e ∧ cur.size = sc2 * 2 ∧ Below w1.heap.size w1 wr) (fun i _ => sc2 - (intOf i).toNat)
    case atStart => exact ⟨0, cur, rfl, Nat.zero_le _, g3, hcs, b3⟩
    case round =>
      clear g3 hcs b3 c3 X3
      obtain ⟨k, cu, rfl, hk, gk, ck, bel⟩ := hrel
      by_cases hlt : k < sc2
      · have hlt' : (k : Int) < (sc2 : Int) := by omega
        go_wp2_with (refine raw_store OK _ rfl _ _ rfl g (k * 2) cu gk rfl (by rw [ck]; show k * 2 + 2 ≤ _; omega) ⟨99, ⟨#[]⟩⟩ rfl ?_; intro W' cu' gk' ck' bu)
        have bel' := bu.below bel hB
        rw [ck] at ck'
        clear bel gk ck bu
        go_wp2_with fail
        go_roundw
        case rel => exact ⟨k + 1, cu', by go_num, by omega, gk', ck', bel'⟩
        case measure => simp [intOf]; omega
      have hlt' : ¬ (k : Int) < (sc2 : Int) := by omega
      clear gk ck
      have d4 := d1.trans (bel.mono d1.size)
      have F4 := F1.below bel F1.lt
      have r4 := r1.below bel
      have q4 := q1.below bel
      clear bel
      go_wp2_with fail
      refine (lives _).mono ?_
      rintro e w5 ⟨rfl, l5⟩
      have d5 := d4.trans (l5.mono d4.size)
      have cF := (F4.below l5 F4.lt).cell
      have EQ5 := EQ w5 _ _ (r4.below l5) (q4.below l5)
      clear d4 F4 r4 q4 l5 EQ
      go_wp2_with fail
      refine EQ5.mono ?_
      rintro e w6 ⟨rfl, l6⟩
      have d6 := d5.trans (l6.mono d5.size)
      clear EQ5 cF d5 l6
      go_wp2_with fail
      go_ret
      exact ⟨rfl, d6⟩
end Go.Proofs.YtpcknkpddinccaaDoor.tcow
