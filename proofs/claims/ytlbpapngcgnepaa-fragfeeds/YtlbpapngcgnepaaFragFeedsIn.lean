/- The walk through custlaw.FragFeeds. -/
import Derived.Test.YtlbpapngcgnepaaFragFedN
import Derived.Test.YtlbpapngcgnepaaFragSame
namespace Go.Proofs.Ytlbpapngcgnepaa.frfs
open Go.ChangeShapes Go.WideShapes Go.ChangeAt Go.RowKit Go.BigFrame
open Go.Proofs.Ytlbpapngcgnepaa Go.Proofs.Ytlbpapngcgnepaa.ipb Go.Proofs.Ytlbpapngcgnepaa.boxes Go.Proofs.Ytlbpapngcgnepaa.ipr Go.Proofs.Ytlbpapngcgnepaa.frb Go.Proofs.Ytlbpapngcgnepaa.frp Go.Proofs.Ytlbpapngcgnepaa.pl Go.Proofs.Ytlbpapngcgnepaa.frt Go.Proofs.Ytlbpapngcgnepaa.frfe Go.Proofs.Ytlbpapngcgnepaa.frsa Go.Proofs.Ytlbpapngcgnepaa.frx
open Go.Proofs.Ytlbpapngcgnepaa.rws (Own Knd)

theorem pool_rd {w : World} {B : Nat} {v : Value} {Q : List Hq} (h : Pool w B v Q) : PRd w v (Q.map Hq.p) := by
  refine ⟨Q.map (·.v), frp.Own.rd h.row, by simp, fun j x y hx hy => ?_⟩
  rw [List.getElem?_map, Option.map_eq_some_iff] at hx hy
  obtain ⟨q, hq, rfl⟩ := hx
  obtain ⟨q', hq', rfl⟩ := hy
  rw [hq] at hq'
  obtain rfl := Option.some.inj hq'
  exact ⟨rfl, frp.Own.rd (h.part q (List.mem_of_getElem? hq))⟩
set_option maxRecDepth 20000 in
set_option maxHeartbeats 4000000 in
theorem walk (v : Value) (L : List Hp) (p : Pk) (w : World) (h : PRd w v L) (hsz : ∀ x ∈ L, ∀ q ∈ x.ps, q.d.size ≤ 9223372036854700000) (hL : L.length * 80 ≤ 140737488355328) (hP : ∀ x ∈ L, x.ps.length * 32 ≤ 140737488355328)
    (hp : 20 + p.o.size + p.d.size ≤ 9223372036854775807) (ha : p.Adr) :
    Calls Try.prog 4 #[v, .agg p.cells] w fun e w' => e = .returned (.bool true) ∧ Below w.heap.size w w' := by
  have CF := fun u hu => feed_any v L p u hu (fun x hx q hq => Nat.le_trans (hsz x hx q hq) (by omega)) hL hP hp ha
  have CR := fun u hu => fdn.fed_any v L p u hu hsz hp ha
  have CC := fun u hu => frc.check_any v L u hu (fun x hx q hq => Nat.le_trans (hsz x hx q hq) (by omega))
  have CQ := fun u hu => frpr.right_any v L u hu hsz
  generalize (feed L p).L = M at CF CR
  generalize (feed L p).q = q at CF CR
  generalize (feed L p).ok = ok at CF CR
  generalize (feed L p).e = er at CF CR
  generalize perr L = pe at CC CQ
  clear hsz hL hP hp ha
  have F0 := Blk.new w p.cells 24
  have b0 := (Below.refl w.heap.size w).alloc (Nat.le_refl _) (.cells p.cells 24)
  have h0 := h.below b0
  clear h
  go_enter Try.func4, Try.ntmps4
  go_wp2_with (refine blk_load _ rfl 24 _ rfl w.heap.size rfl _ _ F0 _ Try.underlying24 rfl 11 pk_info rfl ?_)
  refine (CF _ h0).mono ?_
  rintro e w1 ⟨v1, Q, rfl, P1, hQ, hb1⟩
  have A1 := pool_rd P1
  rw [hQ] at A1
  have F1 := F0.below hb1 F0.lt
  have h1 := h0.below hb1
  have b1 := b0.trans (hb1.mono b0.size)
  clear CF F0 h0 b0 hb1 P1 hQ
  have dA := (Below.refl w1.heap.size w1).alloc (Nat.le_refl _) (.cells zeroP.cells 24)
  go_upto_region 2 with (refine blk_store _ rfl 24 _ _ rfl w1.heap.size q.cells rfl rfl _ _ (Blk.new w1 zeroP.cells 24) 11 pk_info rfl rfl (pk_one q) ?_; intro w3 X3 p3)
  have l3 := p3.below dA (Nat.le_refl _)
  have F3 := F1.below l3 F1.lt
  have h3 := h1.below l3
  have A3 := A1.below l3
  have b3 := b1.trans (l3.mono b1.size)
  clear F1 h1 A1 b1 p3 l3 dA
  go_wp2_with (refine blk_load _ rfl 24 _ rfl w.heap.size rfl _ _ F3 _ Try.underlying24 rfl 11 pk_info rfl ?_)
  refine (CR _ h3).mono ?_
  rintro e w4 ⟨v4, rfl, B4, l4⟩
  have h4 := h3.below l4
  have A4 := A3.below l4
  have X4 := X3.below l4 X3.lt
  have b4 := b3.trans (l4.mono b3.size)
  clear CR F3 h3 A3 X3 b3 l4
  have dA := (Below.refl w4.heap.size w4).alloc (Nat.le_refl _) (.cells zeroP.cells 24)
  go_upto_region 3 with (refine blk_store _ rfl 24 _ _ rfl w4.heap.size q.cells rfl rfl _ _ (Blk.new w4 zeroP.cells 24) 11 pk_info rfl rfl (pk_one q) ?_; intro w5 Y5 p5)
  have l5 := p5.below dA (Nat.le_refl _)
  have h5 := h4.below l5
  have A5 := A4.below l5
  have B5 := B4.below l5
  have X5 := X4.below l5 X4.lt
  have b5 := b4.trans (l5.mono b4.size)
  clear h4 A4 B4 X4 b4 p5 l5 dA
  go_wp2_with fail
  refine (CC _ h5).mono ?_
  rintro e w6 ⟨rfl, l6⟩
  have h6 := h5.below l6
  have A6 := A5.below l6
  have B6 := B5.below l6
  have X6 := X5.below l6 X5.lt
  have Y6 := Y5.below l6 Y5.lt
  have b6 := b5.trans (l6.mono b5.size)
  clear CC h5 A5 B5 X5 Y5 b5 l6
  go_wp2_with fail
  refine (CQ _ h6).mono ?_
  rintro e w7 ⟨rfl, l7⟩
  have A7 := A6.below l7
  have B7 := B6.below l7
  have X7 := X6.below l7 X6.lt
  have Y7 := Y6.below l7 Y6.lt
  have b7 := b6.trans (l7.mono b6.size)
  clear CQ h6 A6 B6 X6 Y6 b6 l7
  go_wp2_with fail
  refine (same_any _ _ M _ A7 B7).mono ?_
  rintro e w8 ⟨rfl, l8⟩
  have X8 := X7.below l8 X7.lt
  have Y8 := Y7.below l8 Y7.lt
  have b8 := b7.trans (l8.mono b7.size)
  have cX := X8.cell
  have cY := Y8.cell
  clear A7 B7 X7 Y7 b7 l8
  go_wp2_with fail
  go_ret
  exact ⟨by simp, b8⟩
end Go.Proofs.Ytlbpapngcgnepaa.frfs
