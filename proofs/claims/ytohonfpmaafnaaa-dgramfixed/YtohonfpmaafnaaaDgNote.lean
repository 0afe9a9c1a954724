/- What dgram.WriteNote and ReadNote answer, and that they change nothing that was there. -/
import Derived.Test.YtohonfpmaafnaaaDgRead
import Derived.Lib.BufferWrite
import Derived.Deep.RegionLaw
namespace Go.Proofs.Ytohonfpmaafnaaa.dgn
open Go.ChangeShapes Go.WideShapes Go.ChangeAt Go.RowKit Go.BigFrame
open Go.Proofs.Ytohonfpmaafnaaa Go.Proofs.Ytohonfpmaafnaaa.EM Go.Proofs.Ytohonfpmaafnaaa.ethb Go.Proofs.Ytohonfpmaafnaaa.SM Go.Proofs.Ytohonfpmaafnaaa.ipb Go.Proofs.Ytohonfpmaafnaaa.buf Go.Proofs.Ytohonfpmaafnaaa.boxes Go.Proofs.Ytohonfpmaafnaaa.wds Go.Proofs.Ytohonfpmaafnaaa.dgb Go.Proofs.Ytohonfpmaafnaaa.dgi
open Go.Proofs.Ytohonfpmaafnaaa.sumw (Qd)
open Go.Proofs.Ytohonfpmaafnaaa.ipb (ret_text)
open Go.Proofs.Ytohonfpmaafnaaa.ipm (bytes_ext ext_list)

theorem nt_info : (Try.prog.info? 34).map (·.size) = some 7 := by kernel_rfl
theorem nt_one (p : Nt) : p.cells.all (·.oneCell') = true := by simp [Value.oneCell']
theorem arg_err (l : Nt) (h : l.ki < 0 ∨ 255 < l.ki ∨ l.co < 0 ∨ 255 < l.co) : l.err = 1 := by unfold Nt.err; rw [if_pos h]
theorem more_err (l : Nt) (h : ¬ (l.ki < 0 ∨ 255 < l.ki ∨ l.co < 0 ∨ 255 < l.co)) : l.err = if 65507 < l.d.size then 2 else 0 := by unfold Nt.err; rw [if_neg h]
theorem writeNote_bad (l : Nt) (w : World) (h : l.d.size ≤ 9223372036854775799) (hn : ¬ l.err = 0) :
    Calls Try.prog 14 #[.agg l.cells] w fun e w' => e = .returned (.tuple #[.string ⟨#[]⟩, .int .i64 l.err]) ∧ Below w.heap.size w w' := by
  have HA : Hid (_ → l.err = 1) := arg_err l
  have HB : Hid (_ → l.err = _) := more_err l
  obtain ⟨c, E⟩ : ∃ c, c = l.err := ⟨_, rfl⟩
  rw [← E] at HA HB hn ⊢
  have HN : Hid (¬ c = 0) := hn
  clear E hn
  have bel := (Below.refl w.heap.size w).alloc (Nat.le_refl _) (.cells l.cells 34)
  go_enter Try.func14, Try.ntmps14
  go_wp2_with fail
  refine (within_any l.ki 255 _).mono ?_
  rintro e w1 ⟨rfl, rfl⟩
  by_cases a1 : 0 ≤ l.ki ∧ l.ki ≤ 255
  case neg =>
    rw [decide_eq_false a1]
    go_wp2_with fail
    go_ret2
    exact ⟨ret_text rfl (HA.out (by omega)).symm, bel⟩
  rw [decide_eq_true a1]
  go_wp2_with fail
  refine (within_any l.co 255 _).mono ?_
  rintro e w1 ⟨rfl, rfl⟩
  by_cases a2 : 0 ≤ l.co ∧ l.co ≤ 255
  case neg =>
    rw [decide_eq_false a2]
    go_wp2_with fail
    go_ret2
    exact ⟨ret_text rfl (HA.out (by omega)).symm, bel⟩
  rw [decide_eq_true a2]
  have G : Hid (c = if 65507 < l.d.size then 2 else 0) := HB.out (by omega)
  clear HA HB a1 a2
  by_cases L : 65507 < l.d.size
  · go_wp2_with fail
    go_ret2
    exact ⟨ret_text rfl (by rw [G.out, if_pos L]), bel⟩
  · exact absurd (by rw [G.out, if_neg L]) HN.out
set_option maxHeartbeats 2000000 in
theorem writeNote_ok (l : Nt) (w : World) (hp : l.Ok) :
    Calls Try.prog 14 #[.agg l.cells] w fun e w' => e = .returned (.tuple #[.string ⟨l.txt.toArray⟩, .int .i64 0]) ∧ Below w.heap.size w w' := by
  have f0 := hp.k0
  have f1 := hp.k1
  have t0 := hp.c0
  have t1 := hp.c1
  have d1 := hp.d1
  clear hp
  have W1 := fun u => within_any l.ki 255 u
  have W2 := fun u => within_any l.co 255 u
  rw [decide_eq_true ⟨f0, f1⟩] at W1
  rw [decide_eq_true ⟨t0, t1⟩] at W2
  have F0 : Blk (w.alloc (.cells l.cells 34)) w.heap.size l.cells 34 := Blk.new _ _ _
  have bel := (Below.refl w.heap.size w).alloc (Nat.le_refl _) (.cells l.cells 34)
  go_enter Try.func14, Try.ntmps14
  go_wp2_with fail
  refine (W1 _).mono ?_
  rintro e w1 ⟨rfl, rfl⟩
  go_wp2_with fail
  refine (W2 _).mono ?_
  rintro e w1 ⟨rfl, rfl⟩
  clear W1 W2
  go_wp2_with (at_make; refine make_own _ rfl _ _ rfl (w.heap.size + 1) _ _ _ (8 + l.d.size) rfl rfl ?c1 (by omega) (by simp) ?_)
  case c1 => simp
  intro v3 w3 o3 l3
  have F3 := F0.below l3 (by omega)
  have b3 := bel.trans (l3.mono (by omega))
  have z3 : w.heap.size + 1 ≤ w3.heap.size := F3.lt
  have cf := F3.cell
  clear F0 bel l3
  go_wp2_with (at_builtin; refine app_own _ rfl _ _ rfl (w.heap.size + 1) _ _ rfl (o3.alloc _) ⟨w3.heap.size, 0, none⟩ 2 2 [b8 l.ki, b8 l.co] rfl rfl ?c2 (by simp) (by simp; omega) ?_)
  case c2 =>
    intro j hj
    match j, hj with
    | 0, _ => simp [Addr.add, b8_at]; omega
    | 1, _ => simp [Addr.add, b8_at]; omega
  intro v4 w4 o4 l4
  have F4 := (F3.alloc _).below l4 (by omega)
  have b4 := (b3.alloc (by omega) _).trans (l4.mono (by omega))
  have z4 : w.heap.size + 1 ≤ w4.heap.size := F4.lt
  clear cf
  have cf := F4.cell
  clear F3 b3 z3 l4 o3
  go_wp2_with fail
  refine (appendWord_any _ (w.heap.size + 1) v4 _ 0 o4 (by simp) z4 (by omega) (by omega)).mono ?_
  rintro e w5 ⟨v5, rfl, o5, l5⟩
  have F5 := F4.below l5 (by omega)
  have b5 := b4.trans (l5.mono (by omega))
  have z5 : w.heap.size + 1 ≤ w5.heap.size := F5.lt
  clear cf
  have cf := F5.cell
  clear F4 b4 z4 l5 o4
  go_wp2_with (at_builtin; refine app_own _ rfl _ _ rfl (w.heap.size + 1) _ _ rfl o5 ⟨w.heap.size, 2, none⟩ 4 4 [l.r0, l.r1, l.r2, l.r3] rfl rfl ?c3 (by simp) z5 ?_)
  case c3 =>
    intro j hj
    match j, hj with
    | 0, _ | 1, _ | 2, _ | 3, _ => simp [Addr.add, cf]
  intro v6 w6 o6 l6
  have F6 := F5.below l6 (by omega)
  have b6 := b5.trans (l6.mono (by omega))
  have z6 : w.heap.size + 1 ≤ w6.heap.size := F6.lt
  clear cf
  have cf := F6.cell
  clear F5 b5 z5 l6 o5
  go_wp2_with (at_builtin; refine appS_own _ rfl _ _ rfl (w.heap.size + 1) _ _ rfl o6 l.d rfl (by simp; omega) z6 ?_)
  intro vb wb ob lb
  have Fb := F6.below lb (by omega)
  have bb := b6.trans (lb.mono (by omega))
  clear cf
  clear F6 b6 z6 lb o6
  obtain ⟨L, hL⟩ : ∃ L, L = b8 l.ki :: b8 l.co :: 0 :: 0 :: l.tl := ⟨_, rfl⟩
  have eL : ∀ X, Own wb (w.heap.size + 1) vb X → X = L → Own wb (w.heap.size + 1) vb L := fun _ a b => b ▸ a
  have ob := eL _ ob (by rw [hL]; simp [Nt.tl, hi8, lo8])
  have hLl : L.length = 8 + l.d.size := by rw [hL]; simp [Nt.tl]; omega
  have hck : 65535 - wsum 0 L = l.ck := by rw [hL]; rfl
  have hput : putw L 2 l.ck = l.txt := by rw [hL]; simp [putw, Nt.txt]
  have ckb := l.ck_bd
  have sz : (⟨L.toArray⟩ : ByteArray).size = 8 + l.d.size := by show L.toArray.size = _; rw [List.size_toArray, hLl]
  have CO : ∀ u, Calls Try.prog 23 #[.string ⟨L.toArray⟩] u fun e w' => e = .returned (.int .u16 l.ck) ∧ Qd u w' := fun u => by
    have := sumw.of_any ⟨L.toArray⟩ u (by rw [sz]; omega)
    rw [← hck]; exact this
  have HP : Hid (putw L 2 l.ck = l.txt) := hput
  clear hL eL hput hck
  have hs := str_own ob
  generalize (⟨L.toArray⟩ : ByteArray) = S at hs CO sz
  go_wp2_with fail
  refine (CO _).mono ?_
  rintro e wd' ⟨rfl, q⟩
  have od := qd_own q ob
  have Fd := qd_blk q Fb
  have bd := bb.trans (qd_below q)
  clear ob Fb bb q CO hs
  go_wp2_with fail
  refine (putWord_any wd' (w.heap.size + 1) vb L 2 l.ck od (by omega) (by omega) ckb.1 ckb.2).mono ?_
  rintro e we ⟨rfl, oe, be, _⟩
  rw [HP.out] at oe
  have bf := bd.trans (be.mono (by omega))
  have hs := str_own oe
  clear oe od Fd bd be
  go_wp2_with fail
  go_ret2
  exact ⟨rfl, bf⟩
theorem writeNote_any (l : Nt) (w : World) (h : l.d.size ≤ 9223372036854775799) :
    Calls Try.prog 14 #[.agg l.cells] w fun e w' => e = .returned (.tuple #[.string l.out, .int .i64 l.err]) ∧ Below w.heap.size w w' := by
  by_cases he : l.err = 0
  · rw [show l.out = ⟨l.txt.toArray⟩ by unfold Nt.out; rw [if_pos he], he]
    exact writeNote_ok l w (Nt.ok he)
  · rw [show l.out = ⟨#[]⟩ by unfold Nt.out; rw [if_neg he]]
    exact writeNote_bad l w h he
end Go.Proofs.Ytohonfpmaafnaaa.dgn
