/- What ip.Write answers. -/
import Derived.Test.YtlbpapngcgnepaaIpWrite
import Derived.Deep.RegionWith
import Derived.Deep.DeepCutAuto
import Derived.Test.YtlbpapngcgnepaaJoinA
namespace Go.Proofs.Ytlbpapngcgnepaa.ipw
open Go.ChangeShapes Go.WideShapes Go.ChangeAt Go.RowKit
open Go.Proofs.Ytlbpapngcgnepaa.EM Go.Proofs.Ytlbpapngcgnepaa.ethb Go.Proofs.Ytlbpapngcgnepaa.SM Go.Proofs.Ytlbpapngcgnepaa.ipb Go.Proofs.Ytlbpapngcgnepaa.buf Go.Proofs.Ytlbpapngcgnepaa.boxes Go.Proofs.Ytlbpapngcgnepaa.ipi
open Go.Proofs.Ytlbpapngcgnepaa.sumw (Qd)
open Go.BigFrame
open Go.Proofs.Ytlbpapngcgnepaa

set_option maxHeartbeats 1000000 in
theorem write_bad (p : Pk) (w : World) (h : 20 + p.o.size + p.d.size ≤ 9223372036854775807) (hn : ¬ p.err = 0) :
    Calls Try.prog 18 #[.agg p.cells] w fun e w' => e = .returned (.tuple #[.string ⟨#[]⟩, .int .i64 p.err]) ∧ Below w.heap.size w w' := by
  have hc := fun u => check_any p u h
  obtain ⟨c, E⟩ : ∃ c, c = p.err := ⟨_, rfl⟩
  rw [← E] at hc hn ⊢
  clear E
  have hn' : (c != 0) = true := by simpa using hn
  have bel := (Below.refl w.heap.size w).alloc (Nat.le_refl _) (.cells p.cells 24)
  go_enter Try.func18, Try.ntmps18
  go_wp2_with fail
  refine (hc _).mono ?_
  rintro e w1 ⟨rfl, hb⟩
  clear hc
  go_wp2_with fail
  go_ret2
  exact ⟨rfl, bel.trans (hb.mono (by simp))⟩

theorem qd_below {B : Nat} {w w' : World} (h : Qd w w') : Below B w w' := by
  obtain ⟨m, rfl⟩ := h; exact bdrewN (Below.refl _ _) m
theorem qd_own {w w' : World} {B : Nat} {v : Value} {l : List UInt8} (q : Qd w w') (h : Own w B v l) : Own w' B v l := by
  obtain ⟨m, rfl⟩ := q; exact h.drewN m
theorem qd_blk {w w' : World} {b : Nat} {F : Array Value} {t : TypeId} (q : Qd w w') (h : Blk w b F t) : Blk w' b F t := by
  obtain ⟨m, rfl⟩ := q; exact h.drewN m
theorem qd_size {w w' : World} (q : Qd w w') : w'.heap.size = w.heap.size := by
  obtain ⟨m, rfl⟩ := q; rfl
/-- the packet's block stands while calls make others -/
structure KP (w : World) (p : Pk) (W : World) : Prop where
  m : Blk W w.heap.size p.cells 24
  bel : Below w.heap.size w W
theorem KP.call {w W w' : World} {p : Pk} (h : KP w p W) (hb : Below W.heap.size W w') : KP w p w' := ⟨h.m.below hb h.m.lt, h.bel.trans (hb.mono h.bel.size)⟩
theorem KP.drew {w W : World} {p : Pk} (h : KP w p W) : KP w p W.drew := ⟨h.m, Below.drew h.bel⟩
set_option maxHeartbeats 2000000 in
theorem write_ok (p : Pk) (w : World) (hp : p.Ok) (ha : p.Adr) :
    Calls Try.prog 18 #[.agg p.cells] w fun e w' => e = .returned (.tuple #[.string ⟨p.txt.toArray⟩, .int .i64 0]) ∧ Below w.heap.size w w' := by
  have hall := hp.all
  have hc := fun u => check_any p u (by omega)
  rw [hp.err] at hc
  have hlong := fun u => long_any p u (by omega)
  have hlong' : ∀ u, Calls Try.prog 43 #[.agg p.cells] u fun e w' => e = .returned (.int .i64 (20 + p.o.size + p.d.size : Nat)) ∧ Below u.heap.size u w' := fun u => (hlong u).mono fun _ _ hx => ⟨hx.1, by rw [hx.2]; exact (Below.refl _ _).alloc (Nat.le_refl _) _⟩
  clear hlong
  have hpiece := fun u => piece_any p u hp
  have hfl := hp.fl_bd
  have t0 := hp.tos0
  have t1 := hp.tos1
  have l0 := hp.li0
  have l1 := hp.li1
  have p0 := hp.pr0
  have p1 := hp.pr1
  have i0 := hp.id0
  have i1 := hp.id1
  have o1 := hp.o1
  have o4 := hp.o4
  have f0 := ha.f0
  have f1 := ha.f1
  have to0 := ha.t0
  have to1 := ha.t1
  have HP : Hid (p.Ok ∧ p.Adr) := ⟨hp, ha⟩
  clear hp ha
  have F0 : Blk (w.alloc (.cells p.cells 24)) w.heap.size p.cells 24 := Blk.new _ _ _
  have bel := (Below.refl w.heap.size w).alloc (Nat.le_refl _) (.cells p.cells 24)
  go_enter Try.func18, Try.ntmps18
  go_wp2_with fail
  refine (hc _).mono ?_
  rintro e w1 ⟨rfl, hb⟩
  clear hc
  have F1 := F0.below hb (by simp)
  have b1 := bel.trans (hb.mono (by simp))
  have z1 : w.heap.size + 1 ≤ w1.heap.size := by have := hb.size; simpa using this
  have cf := F1.cell
  clear F0 bel hb
  go_upto_region 4 with fail
  have G : KP w p w1 := ⟨F1, b1⟩
  clear F1 b1 cf
  have ne : Nonempty (cls.In (KP w p)) := ⟨⟨w1, G⟩⟩
  have cm : ∀ (x : cls.In (KP w p)) o, x.W.cell? ⟨w.heap.size, o, none⟩ = p.cells[o]? := fun x => x.h.m.cell
  refine cls.wp_region_class (KP w p) (by kernel_rfl) (by kernel_rfl) (KP.drew G) ?_
  repeat (go_big_quiet_step ((go_at_call 43; exact cls.call_class (hlong' _) fun _ hb => KP.call (cls.In.h _) hb)))
  refine wpQuiet_nil ?_
  intro _ hx
  obtain ⟨x, rfl⟩ := hx
  obtain ⟨wc, F2, b2⟩ := x
  clear hlong' G ne cm z1
  have z2 : w.heap.size + 1 ≤ wc.heap.size := F2.lt
  go_wp2_with (at_make; refine make_own _ rfl _ _ rfl (w.heap.size + 1) _ _ _ (20 + p.o.size + p.d.size) rfl rfl ?c1 (by omega) z2 ?_)
  case c1 => simp
  intro v3 w3 o3 l3
  have F3 := F2.below l3 (by omega)
  have b3 := b2.trans (l3.mono (by omega))
  have z3 : w.heap.size + 1 ≤ w3.heap.size := F3.lt
  clear F2 b2 z2 l3
  have cf := F3.cell
  go_wp2_with (at_builtin; refine app_own _ rfl _ _ rfl (w.heap.size + 1) _ _ rfl (o3.alloc _) ⟨w3.heap.size, 0, none⟩ 2 2 [b8 (69 + (p.o.size / 4 : Nat)), b8 p.tos] rfl rfl ?c2 (by simp) (by simp; omega) ?_)
  case c2 =>
    intro j hj
    match j, hj with
    | 0, _ => simp [Addr.add, b8_at]; omega
    | 1, _ => simp [Addr.add, b8_at]; omega
  intro v4 w4 o4' l4
  have F4 := (F3.alloc _).below l4 (by omega)
  have b4 := (b3.alloc (by omega) _).trans (l4.mono (by omega))
  have z4 : w.heap.size + 1 ≤ w4.heap.size := F4.lt
  try simp only [List.nil_append] at o4'
  clear F3 b3 z3 l4 o3 cf
  go_wp2_with fail
  refine (appendWord_any _ (w.heap.size + 1) v4 _ (20 + p.o.size + p.d.size : Nat) o4' (by simp) z4 (by omega) (by omega)).mono ?_
  rintro e w5 ⟨v5, rfl, o5, l5⟩
  have F5 := F4.below l5 (by omega)
  have b5 := b4.trans (l5.mono (by omega))
  have z5 : w.heap.size + 1 ≤ w5.heap.size := F5.lt
  have cf := F5.cell
  clear F4 b4 z4 l5 o4'
  go_wp2_with fail
  refine (appendWord_any _ (w.heap.size + 1) v5 _ p.id o5 (by simp) z5 (by omega) (by omega)).mono ?_
  rintro e w6 ⟨v6, rfl, o6, l6⟩
  have F6 := F5.below l6 (by omega)
  have b6 := b5.trans (l6.mono (by omega))
  have z6 : w.heap.size + 1 ≤ w6.heap.size := F6.lt
  clear cf
  have cf := F6.cell
  clear F5 b5 z5 l6 o5
  go_wp2_with fail
  refine (hpiece _).mono ?_
  rintro e w7 ⟨rfl, rfl⟩
  clear hpiece
  go_wp2_with fail
  refine (appendWord_any _ (w.heap.size + 1) v6 _ p.fl (o6.alloc _) (by simp) (by simp; omega) (by omega) (by omega)).mono ?_
  rintro e w7 ⟨v7, rfl, o7, l7⟩
  have F7 := (F6.alloc _).below l7 (by omega)
  have b7 := (b6.alloc (by omega) _).trans (l7.mono (by omega))
  have z7 : w.heap.size + 1 ≤ w7.heap.size := F7.lt
  clear cf
  have cf := F7.cell
  clear F6 b6 z6 l7 o6
  go_wp2_with (at_builtin; refine app_own _ rfl _ _ rfl (w.heap.size + 1) _ _ rfl (o7.alloc _) ⟨w7.heap.size, 0, none⟩ 4 4 [b8 p.li, b8 p.pr, 0, 0] rfl rfl ?c3 (by simp) (by simp; omega) ?_)
  case c3 =>
    intro j hj
    match j, hj with
    | 0, _ => simp [Addr.add, b8_at]; omega
    | 1, _ => simp [Addr.add, b8_at]; omega
    | 2, _ => simp [Addr.add]
    | 3, _ => simp [Addr.add]
  intro v8 w8 o8 l8
  have F8 := (F7.alloc _).below l8 (by omega)
  have b8' := (b7.alloc (by omega) _).trans (l8.mono (by omega))
  have z8 : w.heap.size + 1 ≤ w8.heap.size := F8.lt
  clear cf
  have cf := F8.cell
  clear F7 b7 z7 l8 o7
  go_wp2_with fail
  refine (appendAddress_any _ (w.heap.size + 1) v8 _ p.fr o8 (by simp) z8 f0 f1).mono ?_
  rintro e w9 ⟨v9, rfl, o9, l9⟩
  have F9 := F8.below l9 (by omega)
  have b9 := b8'.trans (l9.mono (by omega))
  have z9 : w.heap.size + 1 ≤ w9.heap.size := F9.lt
  clear cf
  have cf := F9.cell
  clear F8 b8' z8 l9 o8
  go_wp2_with fail
  refine (appendAddress_any _ (w.heap.size + 1) v9 _ p.to o9 (by simp [adr]) z9 to0 to1).mono ?_
  rintro e wa ⟨va, rfl, oa, la⟩
  have Fa := F9.below la (by omega)
  have ba := b9.trans (la.mono (by omega))
  have za : w.heap.size + 1 ≤ wa.heap.size := Fa.lt
  clear cf
  have cf := Fa.cell
  clear F9 b9 z9 la o9
  go_wp2_with (at_builtin; refine appS_own _ rfl _ _ rfl (w.heap.size + 1) _ _ rfl oa p.o rfl (by simp [adr]; omega) za ?_)
  intro vb wb ob lb
  have Fb := Fa.below lb (by omega)
  have bb := ba.trans (lb.mono (by omega))
  have zb : w.heap.size + 1 ≤ wb.heap.size := Fb.lt
  clear cf
  clear Fa ba za lb oa
  obtain ⟨L, hL⟩ : ∃ L, L = p.h1 ++ (0 :: 0 :: p.h2) := ⟨_, rfl⟩
  have eL : ∀ X, Own wb (w.heap.size + 1) vb X → X = L → Own wb (w.heap.size + 1) vb L := fun _ a b => b ▸ a
  have ob := eL _ ob (by rw [hL]; simp [Pk.h1, Pk.h2])
  have hLl : L.length = 20 + p.o.size := by rw [hL]; simp [Pk.h1, Pk.h2, adr]; omega
  have hck : 65535 - wsum 0 L = p.ck := by rw [hL]; rfl
  have hput : putw L 10 p.ck ++ p.d.data.toList = p.txt := by rw [hL]; simp [putw, Pk.h1, Pk.txt]
  have HL : Hid (65535 - wsum 0 L = p.ck ∧ putw L 10 p.ck ++ p.d.data.toList = p.txt) := ⟨hck, hput⟩
  clear hL eL hck hput
  have hs := str_own ob
  go_wp2_with fail
  refine (sumw.of_any _ _ (by simp [ByteArray.size]; omega)).mono ?_
  rintro e wd ⟨rfl, q⟩
  try simp only
  rw [HL.out.1]
  have od := qd_own q ob
  have Fd := qd_blk q Fb
  have bd := bb.trans (qd_below q)
  clear hs ob Fb bb zb q
  go_wp2_with fail
  refine (putWord_any _ (w.heap.size + 1) vb L 10 p.ck od (by omega) (by omega) p.ck_bd.1 p.ck_bd.2).mono ?_
  rintro e we ⟨rfl, oe, le, ze'⟩
  have Fe := Fd.below le (by omega)
  have be := bd.trans (le.mono (by omega))
  have ze : w.heap.size + 1 ≤ we.heap.size := Fe.lt
  have cf := Fe.cell
  clear Fd bd od le
  go_wp2_with (at_builtin; refine appS_own _ rfl _ _ rfl (w.heap.size + 1) _ _ rfl oe p.d rfl (by rw [putw_length]; omega) ze ?_)
  intro vf wf of lf
  have bf := be.trans (lf.mono (by omega))
  rw [HL.out.2] at of
  have hs := str_own of
  clear cf oe Fe be ze lf of
  go_wp2_with fail
  go_ret2
  exact ⟨rfl, bf⟩
end Go.Proofs.Ytlbpapngcgnepaa.ipw
