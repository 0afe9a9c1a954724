/- What eth.Write answers, and that it changes nothing that was there. -/
import Derived.Test.YtolhmmnaohadcaaEthBase
import Derived.Test.YtolhmmnaohadcaaBuf
namespace Go.Proofs.Ytolhmmnaohadcaa.ethw
open Go.ChangeShapes Go.WideShapes Go.ChangeAt Go.RowKit
open Go.Proofs.Ytolhmmnaohadcaa.EM Go.Proofs.Ytolhmmnaohadcaa.ethb Go.Proofs.Ytolhmmnaohadcaa.buf

set_option maxHeartbeats 1000000 in
theorem check_any (t0 t1 t2 t3 t4 t5 f0 f1 f2 f3 f4 f5 v y : Int) (d : ByteArray) (w : World) (hd : d.size ≤ 9223372036854775807) :
    Calls Try.prog 13 #[.agg (frame t0 t1 t2 t3 t4 t5 f0 f1 f2 f3 f4 f5 v y d)] w fun e w' =>
      e = .returned (.int .i64 (wre v y d.size)) ∧ w' = w.alloc (.cells (frame t0 t1 t2 t3 t4 t5 f0 f1 f2 f3 f4 f5 v y d) 25) := by
  go_enter Try.func13, Try.ntmps13
  go_wp2
  all_goals go_ret
  all_goals exact ⟨ret_int (by unfold wre; (repeat' split) <;> first | rfl | omega | (simp_all; done) | (simp_all; omega)), by first | rfl | simp_all⟩

theorem appendWord_any (w : World) (B : Nat) (v : Value) (l : List UInt8) (n : Int) (hown : Own w B v l) (hl : l.length ≤ 70368744177664) (hB : B ≤ w.heap.size) (h0 : 0 ≤ n) (h1 : n ≤ 65535) :
    Calls Try.prog 14 #[v, .int .i64 n] w fun e w' => ∃ v', e = .returned v' ∧ Own w' B v' (l ++ [hi8 n, lo8 n]) ∧ Below B w w' := by
  have e0 := hi8_at n h0 h1
  have e1 := lo8_at n
  have hh : n / 256 < 256 := by omega
  go_enter Try.func14, Try.ntmps14
  go_wp2_with (at_builtin; refine app_own _ rfl _ _ rfl B _ l rfl (hown.alloc _) ⟨w.heap.size, 0, none⟩ 2 2 [hi8 n, lo8 n] rfl rfl ?c1 (by omega) (by simp; omega) ?_)
  case c1 =>
    intro j hj
    match j, hj with
    | 0, _ => simp [Addr.add]; omega
    | 1, _ => simp [Addr.add]; omega
  intro v' w' h1 h2
  go_wp2
  go_ret
  exact ⟨_, rfl, h1, ((Below.refl _ _).alloc hB _).trans h2⟩

theorem ret_text {s s' : ByteArray} {a b : Int} (h : s = s') (h' : a = b) : Ending.returned (.tuple #[.string s, .int .i64 a]) = .returned (.tuple #[.string s', .int .i64 b]) := by rw [h, h']
set_option maxHeartbeats 1000000 in
theorem write_bad (t0 t1 t2 t3 t4 t5 f0 f1 f2 f3 f4 f5 v y : Int) (d : ByteArray) (w : World) (hd : d.size ≤ 9223372036854775807) (h : (wre v y d.size == 0) = false) :
    Calls Try.prog 6 #[.agg (frame t0 t1 t2 t3 t4 t5 f0 f1 f2 f3 f4 f5 v y d)] w fun e w' =>
      e = .returned (.tuple #[.string ⟨#[]⟩, .int .i64 (wre v y d.size)]) ∧ Below w.heap.size w w' := by
  have hc := fun u => check_any t0 t1 t2 t3 t4 t5 f0 f1 f2 f3 f4 f5 v y d u hd
  obtain ⟨c, E⟩ : ∃ c, c = wre v y d.size := ⟨_, rfl⟩
  rw [← E] at hc h ⊢
  clear E
  go_enter Try.func6, Try.ntmps6
  go_wp2_with fail
  refine (hc _).mono ?_
  rintro e w1 ⟨rfl, rfl⟩
  clear hc
  go_wp2_with fail
  go_ret2
  exact ⟨rfl, ((Below.refl _ _).alloc (Nat.le_refl _) _).alloc (by simp) _⟩

set_option maxHeartbeats 2000000 in
theorem write_ok (t0 t1 t2 t3 t4 t5 f0 f1 f2 f3 f4 f5 : UInt8) (v y : Int) (d : ByteArray) (w : World) (h : wre v y d.size = 0) :
    Calls Try.prog 6 #[.agg (frame t0.toNat t1.toNat t2.toNat t3.toNat t4.toNat t5.toNat f0.toNat f1.toNat f2.toNat f3.toNat f4.toNat f5.toNat v y d)] w fun e w' =>
      e = .returned (.tuple #[.string ⟨(wrl t0 t1 t2 t3 t4 t5 f0 f1 f2 f3 f4 f5 v y d).toArray⟩, .int .i64 0]) ∧ Below w.heap.size w w' := by
  have hd : d.size ≤ 65535 := by unfold wre at h; (repeat' split at h) <;> omega
  have hv : -1 ≤ v ∧ v ≤ 4095 := by unfold wre at h; (repeat' split at h) <;> omega
  have hy : 0 ≤ y ∧ y ≤ 65535 := by unfold wre at h; (repeat' split at h) <;> omega
  have hc := fun u => check_any t0.toNat t1.toNat t2.toNat t3.toNat t4.toNat t5.toNat f0.toNat f1.toNat f2.toNat f3.toNat f4.toNat f5.toNat v y d u (by omega)
  rw [h] at hc
  clear h
  have hg : ∀ (w1 w2 : World), Below (w.heap.size + 1) ((w.alloc (.cells (frame t0.toNat t1.toNat t2.toNat t3.toNat t4.toNat t5.toNat f0.toNat f1.toNat f2.toNat f3.toNat f4.toNat f5.toNat v y d) 25)).alloc (.cells (frame t0.toNat t1.toNat t2.toNat t3.toNat t4.toNat t5.toNat f0.toNat f1.toNat f2.toNat f3.toNat f4.toNat f5.toNat v y d) 25)) w2 →
      (∀ o, w2.cell? ⟨w.heap.size, o, none⟩ = (frame t0.toNat t1.toNat t2.toNat t3.toNat t4.toNat t5.toNat f0.toNat f1.toNat f2.toNat f3.toNat f4.toNat f5.toNat v y d)[o]?) ∧ w.heap.size + 1 ≤ w2.heap.size := by
    intro _ w2 hb
    refine ⟨fun o => ?_, by have := hb.size; simp at this; omega⟩
    rw [hb.cell (p := ⟨w.heap.size, o, none⟩) (by simp), World.cell?_alloc_past (hn := by simp), World.cell?_alloc_at (hn := by simp)]
  go_enter Try.func6, Try.ntmps6
  go_wp2_with fail
  refine (hc _).mono ?_
  rintro e w1 ⟨rfl, rfl⟩
  clear hc
  go_wp2_with (at_make; refine make_own _ rfl _ _ rfl (w.heap.size + 1) _ _ _ (18 + d.size) rfl rfl ?c1 (by omega) (by simp) ?_)
  case c1 => simp
  intro b1 w1 o1 l1
  obtain ⟨c1, z1⟩ := hg w w1 l1
  go_wp2_with (at_builtin; refine app_own _ rfl _ _ rfl (w.heap.size + 1) _ _ rfl o1 ⟨w.heap.size, 0, none⟩ 6 6 [t0, t1, t2, t3, t4, t5] rfl rfl ?c2 (by simp) z1 ?_)
  case c2 =>
    intro j hj
    match j, hj with
    | 0, _ | 1, _ | 2, _ | 3, _ | 4, _ | 5, _ => simp [Addr.add, c1]
  intro b2 w2 o2 l2'
  have l2 := l1.trans l2'
  clear o1 l1 l2' c1 z1
  obtain ⟨c2, z2⟩ := hg w w2 l2
  go_wp2_with (at_builtin; refine app_own _ rfl _ _ rfl (w.heap.size + 1) _ _ rfl o2 ⟨w.heap.size, 6, none⟩ 6 6 [f0, f1, f2, f3, f4, f5] rfl rfl ?c3 (by simp) z2 ?_)
  case c3 =>
    intro j hj
    match j, hj with
    | 0, _ | 1, _ | 2, _ | 3, _ | 4, _ | 5, _ => simp [Addr.add, c2]
  intro b3 w3 o3 l3'
  have l3 := l2.trans l3'
  clear o2 l2 l3' c2 z2
  obtain ⟨c3, z3⟩ := hg w w3 l3
  try simp only [List.cons_append, List.nil_append] at o3
  by_cases hv1 : v = -1
  · subst hv1
    go_wp2_with fail
    refine (appendWord_any _ (w.heap.size + 1) b3 _ y o3 (by simp) z3 hy.1 hy.2).mono ?_
    rintro e w4 ⟨b4, rfl, o4, l4'⟩
    have l4 := l3.trans l4'
    clear o3 l3 l4' c3 z3
    obtain ⟨c4, z4⟩ := hg w w4 l4
    go_wp2_with (at_builtin; refine appS_own _ rfl _ _ rfl (w.heap.size + 1) _ _ rfl o4 d rfl (by simp; omega) z4 ?_)
    intro b5 w5 o5 l5'
    have l5 := l4.trans l5'
    clear o4 l4 l5' c4 z4 hg
    have hs := str_own o5
    clear o5
    go_wp2_with fail
    go_ret2
    exact ⟨ret_text (by simp [wrl, tagl]) rfl, (((Below.refl _ _).alloc (Nat.le_refl _) _).alloc (by simp) _).trans (l5.mono (by omega))⟩
  · have hv2 : (v == -1) = false := by simpa using hv1
    have HV : Hid (¬ v = -1) := hv1
    clear hv1
    go_wp2_with fail
    refine (appendWord_any _ (w.heap.size + 1) b3 _ 33024 o3 (by simp) z3 (by omega) (by omega)).mono ?_
    rintro e w4 ⟨b4, rfl, o4, l4'⟩
    have l4 := l3.trans l4'
    clear o3 l3 l4' c3 z3
    obtain ⟨c4, z4⟩ := hg w w4 l4
    go_wp2_with fail
    refine (appendWord_any _ (w.heap.size + 1) b4 _ v o4 (by simp) z4 (by have := HV.out; omega) (by omega)).mono ?_
    rintro e w5 ⟨b5, rfl, o5, l5'⟩
    have l5 := l4.trans l5'
    clear o4 l4 l5' c4 z4
    obtain ⟨c5, z5⟩ := hg w w5 l5
    go_wp2_with fail
    refine (appendWord_any _ (w.heap.size + 1) b5 _ y o5 (by simp) z5 hy.1 hy.2).mono ?_
    rintro e w6 ⟨b6, rfl, o6, l6'⟩
    have l6 := l5.trans l6'
    clear o5 l5 l6' c5 z5
    obtain ⟨c6, z6⟩ := hg w w6 l6
    go_wp2_with (at_builtin; refine appS_own _ rfl _ _ rfl (w.heap.size + 1) _ _ rfl o6 d rfl (by simp; omega) z6 ?_)
    intro b7 w7 o7 l7'
    have l7 := l6.trans l7'
    clear o6 l6 l7' c6 z6 hg
    have hs := str_own o7
    clear o7
    go_wp2_with fail
    go_ret2
    exact ⟨ret_text (by rw [show hi8 33024 = 129 from rfl, show lo8 33024 = 0 from rfl]; simp [wrl, tagl, HV.out]) rfl, (((Below.refl _ _).alloc (Nat.le_refl _) _).alloc (by simp) _).trans (l7.mono (by omega))⟩
end Go.Proofs.Ytolhmmnaohadcaa.ethw
