/- What dgram.Write answers, and that it changes nothing that was there. -/
import Derived.Test.YtohonfpmaafnaaaDgIn
import Derived.Test.YtohonfpmaafnaaaAb
import Derived.Deep.RegionWith
import Derived.Deep.DeepCutAuto
namespace Go.Proofs.Ytohonfpmaafnaaa.dgw
open Go.ChangeShapes Go.WideShapes Go.ChangeAt Go.RowKit Go.BigFrame
open Go.Proofs.Ytohonfpmaafnaaa Go.Proofs.Ytohonfpmaafnaaa.EM Go.Proofs.Ytohonfpmaafnaaa.ethb Go.Proofs.Ytohonfpmaafnaaa.SM Go.Proofs.Ytohonfpmaafnaaa.ipb Go.Proofs.Ytohonfpmaafnaaa.buf Go.Proofs.Ytohonfpmaafnaaa.boxes Go.Proofs.Ytohonfpmaafnaaa.wds Go.Proofs.Ytohonfpmaafnaaa.dgb Go.Proofs.Ytohonfpmaafnaaa.dgi
open Go.Proofs.Ytohonfpmaafnaaa.sumw (Qd)
open Go.Proofs.Ytohonfpmaafnaaa.ipb (ret_text)

theorem lt_info : (Try.prog.info? 23).map (·.size) = some 3 := by kernel_rfl
theorem lt_one (p : Lt) : p.cells.all (·.oneCell') = true := by simp [Value.oneCell']
theorem arg_err (l : Lt) (h : l.fr < 0 ∨ 65535 < l.fr ∨ l.to < 0 ∨ 65535 < l.to) : l.err = 1 := by unfold Lt.err; rw [if_pos h]
theorem more_err (l : Lt) (h : ¬ (l.fr < 0 ∨ 65535 < l.fr ∨ l.to < 0 ∨ 65535 < l.to)) : l.err = if 65507 < l.d.size then 2 else 0 := by unfold Lt.err; rw [if_neg h]
theorem write_bad (l : Lt) (f t : Int) (w : World) (h : l.d.size ≤ 9223372036854775799) (hn : ¬ l.err = 0) :
    Calls Try.prog 8 #[.agg l.cells, .int .u32 f, .int .u32 t] w fun e w' => e = .returned (.tuple #[.string ⟨#[]⟩, .int .i64 l.err]) ∧ Below w.heap.size w w' := by
  have HA : Hid (_ → l.err = 1) := arg_err l
  have HB : Hid (_ → l.err = _) := more_err l
  obtain ⟨c, E⟩ : ∃ c, c = l.err := ⟨_, rfl⟩
  rw [← E] at HA HB hn ⊢
  have HN : Hid (¬ c = 0) := hn
  clear E hn
  have bel := (Below.refl w.heap.size w).alloc (Nat.le_refl _) (.cells l.cells 23)
  go_enter Try.func8, Try.ntmps8
  go_wp2_with fail
  refine (within_any l.fr 65535 _).mono ?_
  rintro e w1 ⟨rfl, rfl⟩
  by_cases a1 : 0 ≤ l.fr ∧ l.fr ≤ 65535
  case neg =>
    rw [decide_eq_false a1]
    go_wp2_with fail
    go_ret2
    exact ⟨ret_text rfl (HA.out (by omega)).symm, bel⟩
  rw [decide_eq_true a1]
  go_wp2_with fail
  refine (within_any l.to 65535 _).mono ?_
  rintro e w1 ⟨rfl, rfl⟩
  by_cases a2 : 0 ≤ l.to ∧ l.to ≤ 65535
  case neg =>
    rw [decide_eq_false a2]
    go_wp2_with fail
    go_ret2
    exact ⟨ret_text rfl (HA.out (by omega)).symm, bel⟩
  rw [decide_eq_true a2]
  have G : Hid (c = if 65507 < l.d.size then 2 else 0) := HB.out (by omega)
  clear HA HB a1 a2
  by_cases L : 65507 < l.d.size
  · go_wp2_with fail
    go_ret2
    exact ⟨ret_text rfl (by rw [G.out, if_pos L]), bel⟩
  · exact absurd (by rw [G.out, if_neg L]) HN.out
set_option maxHeartbeats 2000000 in
theorem write_ok (l : Lt) (f t : Int) (w : World) (hp : l.Ok) (hf : Ad f) (ht : Ad t) :
    Calls Try.prog 8 #[.agg l.cells, .int .u32 f, .int .u32 t] w fun e w' => e = .returned (.tuple #[.string ⟨(l.txt f t).toArray⟩, .int .i64 0]) ∧ Below w.heap.size w w' := by
  have f0 := hp.f0
  have f1 := hp.f1
  have t0 := hp.t0
  have t1 := hp.t1
  have d1 := hp.d1
  clear hp
  have W1 := fun u => within_any l.fr 65535 u
  have W2 := fun u => within_any l.to 65535 u
  rw [decide_eq_true ⟨f0, f1⟩] at W1
  rw [decide_eq_true ⟨t0, t1⟩] at W2
  have F0 : Blk (w.alloc (.cells l.cells 23)) w.heap.size l.cells 23 := Blk.new _ _ _
  have bel := (Below.refl w.heap.size w).alloc (Nat.le_refl _) (.cells l.cells 23)
  go_enter Try.func8, Try.ntmps8
  go_wp2_with fail
  refine (W1 _).mono ?_
  rintro e w1 ⟨rfl, rfl⟩
  go_wp2_with fail
  refine (W2 _).mono ?_
  rintro e w1 ⟨rfl, rfl⟩
  clear W1 W2
  go_wp2_with (at_make; refine make_own _ rfl _ _ rfl (w.heap.size + 1) _ _ _ (8 + l.d.size) rfl rfl ?c1 (by omega) (by simp) ?_)
  case c1 => simp
  intro v3 w3 o3 l3
  have F3 := F0.below l3 (by omega)
  have b3 := bel.trans (l3.mono (by omega))
  have z3 : w.heap.size + 1 ≤ w3.heap.size := F3.lt
  have cf := F3.cell
  clear F0 bel l3
  go_wp2_with fail
  refine (appendWord_any _ (w.heap.size + 1) v3 _ l.fr o3 (by simp) z3 (by omega) (by omega)).mono ?_
  rintro e w4 ⟨v4, rfl, o4, l4⟩
  have F4 := F3.below l4 (by omega)
  have b4 := b3.trans (l4.mono (by omega))
  have z4 : w.heap.size + 1 ≤ w4.heap.size := F4.lt
  clear cf
  have cf := F4.cell
  clear F3 b3 z3 l4 o3
  go_wp2_with fail
  refine (appendWord_any _ (w.heap.size + 1) v4 _ l.to o4 (by simp) z4 (by omega) (by omega)).mono ?_
  rintro e w5 ⟨v5, rfl, o5, l5⟩
  have F5 := F4.below l5 (by omega)
  have b5 := b4.trans (l5.mono (by omega))
  have z5 : w.heap.size + 1 ≤ w5.heap.size := F5.lt
  clear cf
  have cf := F5.cell
  clear F4 b4 z4 l5 o4
  go_wp2_with fail
  refine (appendWord_any _ (w.heap.size + 1) v5 _ (8 + l.d.size : Nat) o5 (by simp) z5 (by omega) (by omega)).mono ?_
  rintro e w6 ⟨v6, rfl, o6, l6⟩
  have F6 := F5.below l6 (by omega)
  have b6 := b5.trans (l6.mono (by omega))
  have z6 : w.heap.size + 1 ≤ w6.heap.size := F6.lt
  clear cf
  have cf := F6.cell
  clear F5 b5 z5 l6 o5
  go_wp2_with fail
  refine (appendWord_any _ (w.heap.size + 1) v6 _ 0 o6 (by simp) z6 (by omega) (by omega)).mono ?_
  rintro e w7 ⟨v7, rfl, o7, l7⟩
  have F7 := F6.below l7 (by omega)
  have b7 := b6.trans (l7.mono (by omega))
  have z7 : w.heap.size + 1 ≤ w7.heap.size := F7.lt
  clear cf
  have cf := F7.cell
  clear F6 b6 z6 l7 o6
  go_wp2_with (at_builtin; refine appS_own _ rfl _ _ rfl (w.heap.size + 1) _ _ rfl o7 l.d rfl (by simp; omega) z7 ?_)
  intro vb wb ob lb
  have Fb := F7.below lb (by omega)
  have bb := b7.trans (lb.mono (by omega))
  have zb : w.heap.size + 1 ≤ wb.heap.size := Fb.lt
  clear cf
  clear F7 b7 z7 lb o7
  obtain ⟨L, hL⟩ : ∃ L, L = l.h1 ++ (0 :: 0 :: l.d.data.toList) := ⟨_, rfl⟩
  have eL : ∀ X, Own wb (w.heap.size + 1) vb X → X = L → Own wb (w.heap.size + 1) vb L := fun _ a b => b ▸ a
  have ob := eL _ ob (by rw [hL]; simp [Lt.h1, hi8, lo8])
  have hLl : L.length = 8 + l.d.size := by rw [hL]; simp [Lt.h1]; omega
  have hck : 65535 - wsum 0 (und f t 17 (8 + l.d.size : Nat) ++ L) = l.c0 f t := by rw [hL]; rfl
  have hput : putw L 6 (l.ck f t) = l.txt f t := by rw [hL]; simp [putw, Lt.h1, Lt.txt]
  have cks : l.ck f t = if l.c0 f t = 0 then 65535 else l.c0 f t := rfl
  have ckb := l.ck_bd f t
  have c0b := l.c0_bd f t
  have sz : (⟨L.toArray⟩ : ByteArray).size = 8 + l.d.size := by show L.toArray.size = _; rw [List.size_toArray, hLl]
  have CU := fun u => under_any f t ⟨L.toArray⟩ u (by rw [sz]; omega) hf ht
  have CO := fun u => sumw.of_any (uns f t ⟨L.toArray⟩) u (by rw [uns_size, sz]; omega)
  rw [uns_list, sz, hck] at CO
  generalize uns f t ⟨L.toArray⟩ = U at CU CO
  have HP : Hid (putw L 6 (l.ck f t) = l.txt f t) := hput
  clear hL eL hput hck
  have hs := str_own ob
  generalize (⟨L.toArray⟩ : ByteArray) = S at hs CU sz
  go_wp2_with fail
  refine (CU _).mono ?_
  rintro e wc ⟨rfl, lc⟩
  have oc := ob.kept lc
  have Fc := Fb.below lc Fb.lt
  have bc' := bb.trans (lc.mono bb.size)
  clear hs ob Fb bb zb lc CU
  go_wp2_with fail
  refine (CO _).mono ?_
  rintro e wd' ⟨rfl, q⟩
  have od := qd_own q oc
  have Fd := qd_blk q Fc
  have bd := bc'.trans (qd_below q)
  clear oc Fc bc' q CO
  have PW : ∀ c, l.ck f t = c → Calls Try.prog 25 #[vb, .int .i64 6, .int .u16 c] wd' fun e w' => e = .returned (.tuple #[]) ∧ Own w' (w.heap.size + 1) vb (l.txt f t) ∧ Below w.heap.size w w' := fun c hc => by
    subst hc
    refine (putWord_any wd' (w.heap.size + 1) vb L 6 (l.ck f t) od (by omega) (by omega) (by omega) ckb.2).mono ?_
    rintro e w' ⟨rfl, ho, hb, _⟩
    rw [HP.out] at ho
    exact ⟨rfl, ho, bd.trans (hb.mono (by omega))⟩
  have HK : Hid (l.ck f t = _) := cks
  clear od Fd bd HP cks ckb
  obtain ⟨ck, eck⟩ : ∃ x, x = l.ck f t := ⟨_, rfl⟩
  obtain ⟨c0, ec0⟩ : ∃ x, x = l.c0 f t := ⟨_, rfl⟩
  rw [← eck] at PW
  rw [← eck, ← ec0] at HK
  rw [← ec0] at c0b
  rw [← ec0]
  clear eck ec0
  by_cases cz : c0 = 0
  · subst cz
    have PW := PW 65535 (by rw [HK.out]; rfl)
    clear HK
    go_wp2_with fail
    refine PW.mono ?_
    rintro e we ⟨rfl, oe, be⟩
    have hs := str_own oe
    clear oe PW
    go_wp2_with fail
    go_ret2
    exact ⟨rfl, be⟩
  · have PW := PW c0 (by rw [HK.out, if_neg cz])
    have cz' : (c0 == 0) = false := by simpa using cz
    clear HK cz
    go_wp2_with fail
    refine PW.mono ?_
    rintro e we ⟨rfl, oe, be⟩
    have hs := str_own oe
    clear oe PW
    go_wp2_with fail
    go_ret2
    exact ⟨rfl, be⟩
theorem write_any (l : Lt) (f t : Int) (w : World) (h : l.d.size ≤ 9223372036854775799) (hf : Ad f) (ht : Ad t) :
    Calls Try.prog 8 #[.agg l.cells, .int .u32 f, .int .u32 t] w fun e w' => e = .returned (.tuple #[.string (l.out f t), .int .i64 l.err]) ∧ Below w.heap.size w w' := by
  by_cases he : l.err = 0
  · rw [show l.out f t = ⟨(l.txt f t).toArray⟩ by unfold Lt.out; rw [if_pos he], he]
    exact write_ok l f t w (Lt.ok he) hf ht
  · rw [show l.out f t = ⟨#[]⟩ by unfold Lt.out; rw [if_neg he]]
    exact write_bad l f t w h he
end Go.Proofs.Ytohonfpmaafnaaa.dgw
