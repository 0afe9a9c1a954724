/- The walk through custlaw.TcpWrites. -/
import Derived.Test.YtpcknkpddinccaaDoorTcpRf5
import Derived.Test.YtpcknkpddinccaaDoorTcpRf3
import Derived.Test.YtpcknkpddinccaaDoorTcpWr4
import Derived.Test.YtpcknkpddinccaaDoorTcpSame
namespace Go.Proofs.YtpcknkpddinccaaDoor.tcwi
open Go.ChangeShapes Go.WideShapes Go.ChangeAt Go.RowKit Go.BigFrame
open Go.Proofs.YtpcknkpddinccaaDoor Go.Proofs.YtpcknkpddinccaaDoor.EM Go.Proofs.YtpcknkpddinccaaDoor.ethb Go.Proofs.YtpcknkpddinccaaDoor.SM Go.Proofs.YtpcknkpddinccaaDoor.ipb Go.Proofs.YtpcknkpddinccaaDoor.boxes Go.Proofs.YtpcknkpddinccaaDoor.wds Go.Proofs.YtpcknkpddinccaaDoor.tcb Go.Proofs.YtpcknkpddinccaaDoor.tct Go.Proofs.YtpcknkpddinccaaDoor.tcrb Go.Proofs.YtpcknkpddinccaaDoor.rwr Go.Proofs.YtpcknkpddinccaaDoor.tcm Go.Proofs.YtpcknkpddinccaaDoor.tcs
open Go.Proofs.YtpcknkpddinccaaDoor.rws (Knd Own)
open Go.Proofs.YtpcknkpddinccaaDoor.dgi (Ad)

/-- a segment of its own is told, with so many options -/
theorem told_form {P : Program} {fid : FuncId} {args : Array Value} {u : World} {R : Sh} {O : List Opt} {er : Int} {n : Nat} (hn : O.length = n) (h : Calls P fid args u fun e w' => ∃ v, e = .returned (.tuple #[.agg (R.cells v), .int .i64 er]) ∧ Own OK w' u.heap.size v O ∧ Below u.heap.size u w') :
    Calls P fid args u fun e w' => ∃ sa sc, e = .returned (.tuple #[.agg (R.cells (.slice sa n sc)), .int .i64 er]) ∧ Rd OK w' (.slice sa n sc) O ∧ Below u.heap.size u w' := by
  refine h.mono ?_
  rintro e w' ⟨v, rfl, o, hb⟩
  have r := Own.rd o
  obtain ⟨sa, sc, rfl⟩ := r.form
  rw [hn] at r ⊢
  exact ⟨sa, sc, rfl, r, hb⟩
set_option maxRecDepth 20000 in
set_option maxHeartbeats 8000000 in
theorem walk (h : Sh) (v : Value) (os : List Opt) (f t : Int) (s : ByteArray) (w : World) (hr : Rd OK w v os) (ha : h.Adr) (hl : os.length ≤ 6000000000000) (hd : h.d.size ≤ 140737488351232) (hs : s.size ≤ 140737488351232) (hf : Ad f) (ht : Ad t) :
    Calls Tryd.prog 3 #[.agg (h.cells v), .int .u32 f, .int .u32 t, .string s] w fun e w' => e = .returned (.bool true) ∧ Below w.heap.size w w' := by
  have C1 := fun u hu => tcw4.write_any h v os f t u hu hl hd ha hf ht
  have C2 := fun u hu => tcf5.segmentText_any h v os f t u hu ha hd hf ht
  generalize sout h os f t = S at C1 C2
  generalize serr h os = E at C1 C2
  obtain ⟨m, hm⟩ : ∃ m, (rgo s f t).length = m := ⟨_, rfl⟩
  have C3 := fun u => told_form hm (tcr3.read_any s f t u (by omega) hf ht)
  have C4 := fun u => told_form hm (tcf3.textSegment_any s f t u (by omega) hf ht)
  have SM := fun u x y h1 h2 => same_any (rgh s f t) x y (rgo s f t) u h1 h2
  generalize rgh s f t = R at *
  generalize rse s f t = Q at *
  generalize rgo s f t = O at *
  have F0 := Blk.new w (h.cells v) 25
  have d0 := (Below.refl w.heap.size w).alloc (Nat.le_refl _) (.cells (h.cells v) 25)
  have r0 := hr.below d0
  obtain ⟨sa, sc, rfl⟩ := hr.form
  clear hr hl hd hs ha hf ht hm
  generalize os.length = n at *
  go_enter Tryd.func3, Tryd.ntmps3
  go_wp2_with (refine blk_load _ rfl 25 _ rfl w.heap.size rfl _ _ F0 _ Tryd.underlying25 rfl 9 sg_info rfl ?_)
  refine (C1 _ r0).mono ?_
  rintro e w1 ⟨rfl, l1⟩
  have F1 := F0.below l1 F0.lt
  have d1 := d0.trans (l1.mono d0.size)
  have r1 := r0.below l1
  clear C1 F0 d0 r0 l1
  go_wp2_with (refine blk_load _ rfl 25 _ rfl w.heap.size rfl _ _ F1 _ Tryd.underlying25 rfl 9 sg_info rfl ?_)
  refine (C2 _ r1).mono ?_
  rintro e w2 ⟨rfl, l2⟩
  have d2 := d1.trans (l2.mono d1.size)
  clear C2 F1 d1 r1 l2
  go_wp2_with fail
  refine (C3 _).mono ?_
  rintro e w3 ⟨sa3, sc3, rfl, q3, l3⟩
  have d3 := d2.trans (l3.mono d2.size)
  clear C3 d2 l3
  have dA := (Below.refl w3.heap.size w3).alloc (Nat.le_refl _) (.cells (zeroS.cells (.slice none 0 0)) 25)
  go_upto_region 4 with (refine blk_store _ rfl 25 _ _ rfl w3.heap.size (R.cells (.slice sa3 m sc3)) rfl rfl _ _ (Blk.new w3 (zeroS.cells (.slice none 0 0)) 25) 9 sg_info rfl rfl (sg_one _ _ _ _) ?_; intro w4 X4 p4)
  have l4 := p4.below dA (Nat.le_refl _)
  have d4 := d3.trans (l4.mono d3.size)
  have q4 := q3.below l4
  clear d3 q3 p4 l4 dA
  go_wp2_with fail
  refine (C4 _).mono ?_
  rintro e w5 ⟨sa5, sc5, rfl, y5, l5⟩
  have d5 := d4.trans (l5.mono d4.size)
  have q5 := q4.below l5
  have X5 := X4.below l5 X4.lt
  have X5t := X5.lt
  clear C4 d4 q4 X4 l5
  have dA := (Below.refl w5.heap.size w5).alloc (Nat.le_refl _) (.cells (zeroS.cells (.slice none 0 0)) 25)
  go_upto_region 5 with (refine blk_store _ rfl 25 _ _ rfl w5.heap.size (R.cells (.slice sa5 m sc5)) rfl rfl _ _ (Blk.new w5 (zeroS.cells (.slice none 0 0)) 25) 9 sg_info rfl rfl (sg_one _ _ _ _) ?_; intro w6 Y6 p6)
  have l6 := p6.below dA (Nat.le_refl _)
  have d6 := d5.trans (l6.mono d5.size)
  have X6 := X5.below l6 X5.lt
  have SM6 := SM w6 _ _ (q5.below l6) (y5.below l6)
  clear d5 q5 y5 X5 p6 l6 dA SM
  have cX := X6.cell
  have cY := Y6.cell
  go_wp2_with fail
  refine SM6.mono ?_
  rintro e w7 ⟨rfl, l7⟩
  have d7 := d6.trans (l7.mono d6.size)
  clear SM6 X6 Y6 cX cY d6 l7
  go_wp2_with fail
  go_ret
  exact ⟨rfl, d7⟩
end Go.Proofs.YtpcknkpddinccaaDoor.tcwi
