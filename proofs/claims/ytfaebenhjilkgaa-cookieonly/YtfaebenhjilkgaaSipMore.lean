/- What package sip's More answers. -/
import Derived.Test.YtfaebenhjilkgaaSipBegin
import Derived.Test.YtfaebenhjilkgaaShelf
namespace Go.Proofs.Ytfaebenhjilkgaa.sipo
open Go.ChangeShapes Go.WideShapes Go.ChangeAt Go.RowKit Go.BigFrame
open Go.Proofs.Ytfaebenhjilkgaa Go.Proofs.Ytfaebenhjilkgaa.sipm Go.Proofs.Ytfaebenhjilkgaa.boxes Go.Proofs.Ytfaebenhjilkgaa.sipb Go.Proofs.Ytfaebenhjilkgaa.sipt Go.Proofs.Ytfaebenhjilkgaa.sipn Go.Proofs.Ytfaebenhjilkgaa.sipf Go.Proofs.Ytfaebenhjilkgaa.sipr
open Go.Proofs.Ytfaebenhjilkgaa.sumw (Qd Qd.refl Qd.drewN Qd.trans)

/-- what is behind a text -/
def ev (v : V4) (p s : ByteArray) : V4 := (eat (v, p.data.toList) s.data.toList).1
def ep (v : V4) (p s : ByteArray) : ByteArray := ⟨(eat (v, p.data.toList) s.data.toList).2.toArray⟩
def zs : Value → Nat
  | .string x => x.size
  | _ => 0
theorem clone_any (s : ByteArray) (w : World) (h : s.size ≤ 281474976710656) : Calls Try.prog 36 #[.string s] w fun e w' => e = .returned (.string s) ∧ Below w.heap.size w w' := by
  go_enter Try.func36, Try.ntmps36
  go_wp2_with fail
  refine (Try.stringslite_Clone s _ h).mono ?_
  rintro e w1 ⟨rfl, q⟩
  go_wp2_with fail
  go_ret
  exact ⟨rfl, q⟩
/-- four cells of a block are written; another stands -/
theorem put4 {W w : World} {b c n : Nat} {F G : Array Value} {t u : TypeId} {x0 x1 x2 x3 : Value} {p : World → Prop} (h1 : Blk W b F t) (h2 : Blk W c G u) (h3 : Below n w W) (hb : n ≤ b) (hc : c ≠ b)
    (h : ∀ W', Blk W' b ((((F.setIfInBounds 0 x0).setIfInBounds 1 x1).setIfInBounds 2 x2).setIfInBounds 3 x3) t → Blk W' c G u → Below n w W' → p W') : p ((((W.setCell ⟨b, 0, none⟩ x0).setCell ⟨b, 1, none⟩ x1).setCell ⟨b, 2, none⟩ x2).setCell ⟨b, 3, none⟩ x3) :=
  h _ ((((h1.setCell 0 x0).setCell 1 x1).setCell 2 x2).setCell 3 x3)
    ((but_setCell _ b 3 x3).blk ((but_setCell _ b 2 x2).blk ((but_setCell _ b 1 x1).blk ((but_setCell W b 0 x0).blk h2 hc) hc) hc) hc)
    ((but_setCell _ b 3 x3).below ((but_setCell _ b 2 x2).below ((but_setCell _ b 1 x1).below ((but_setCell W b 0 x0).below h3 hb) hb) hb) hb)
theorem w64 (n : Int) (h0 : -9223372036854775808 ≤ n) (h1 : n ≤ 9223372036854775807) : IntKind.i64.wrap n = n := by
  simp [IntKind.wrap, IntKind.bits, IntKind.signed]
  omega
theorem drop8 (x : ByteArray) : (x.extract 8 x.size).data.toList = x.data.toList.drop 8 := by
  have hl : x.data.toList.length = x.size := by simp
  simp only [ByteArray.data_extract, Array.toList_extract, List.extract]
  exact List.take_of_length_le (by rw [List.length_drop]; omega)
theorem sz_app (p s : ByteArray) : (p ++ s).size = p.size + s.size := ByteArray.size_append
set_option maxHeartbeats 4000000 in
theorem more_ok (v : V4) (p s : ByteArray) (n : Int) (w : World) (h : okf p n = true) (hn : n + (s.size : Int) ≤ 9223372036854775807) (hs : s.size ≤ 281474976710600) :
    Calls Try.prog 26 #[.agg (sc v p n), .string s] w fun e w' => e = .returned (.tuple #[.agg (sc (ev v p s) (ep v p s) (n + s.size)), .int .i64 0]) ∧ Below w.heap.size w w' := by
  have hp : 0 ≤ n ∧ p.size ≤ 7 := by
    unfold okf at h
    simp at h
    omega
  obtain ⟨h0, h7⟩ := hp
  obtain ⟨N, eN⟩ : ∃ N, N = n + (s.size : Int) := ⟨_, rfl⟩
  obtain ⟨U, eU⟩ : ∃ U, U = ev v p s := ⟨_, rfl⟩
  obtain ⟨Y, eY⟩ : ∃ Y, Y = ep v p s := ⟨_, rfl⟩
  have hw : IntKind.i64.wrap (n + (s.size : Int)) = N := by rw [eN]; exact w64 _ (by omega) (by omega)
  have hps := sz_app p s
  rw [← eU, ← eY, ← eN]
  have EU : Hid (U = _) := eU
  have EY : Hid (Y = _) := eY
  clear eN eU eY hn
  have K0 : Blk ((w.alloc (.cells (sc v p n) 56)).alloc (.cells ZS 56)) w.heap.size (sc v p n) 56 := (Blk.new _ _ _).alloc _
  have R0 : Blk ((w.alloc (.cells (sc v p n) 56)).alloc (.cells ZS 56)) (w.heap.size + 1) ZS 56 := Blk.newAt _ _ _ (by simp)
  have B0 := ((Below.refl w.heap.size w).alloc (Nat.le_refl _) (.cells (sc v p n) 56)).alloc (by simp) (.cells ZS 56)
  go_enter Try.func26, Try.ntmps26
  go_upto_region 1 with fail
  refine gen2 (p := fun W => Code.wp _ _ _ _ W) K0 R0 B0 ?_
  clear K0 R0 B0
  intro W K R B
  go_wp2_with (refine blk_load _ rfl 56 _ rfl _ rfl _ _ K _ Try.underlying56 rfl 6 sp_info rfl ?_)
  refine (inForm_any v p n _).mono ?_
  rintro e W1 ⟨rfl, q⟩
  replace K := K.below q K.lt
  replace R := R.below q R.lt
  replace B := B.trans (q.mono (Below.size B))
  rw [h]
  clear h q
  have ck := K.cell
  have fk := K.free
  go_upto_region 4 with fail
  clear ck fk
  refine put (p := fun W => Code.wp _ _ _ _ W) K R B (by omega) (by omega) ?_
  clear K R B
  intro W (K : Blk _ _ #[nm v.a, nm v.b, nm v.c, nm v.d, .string p, .int .i64 N] _) R B
  have ck := K.cell
  go_wp2_with fail
  clear ck
  go_loopw [6] (fun r wr => ∃ (x : ByteArray) (u : V4), r = .string x ∧ x.size ≤ (p ++ s).size ∧ Hid (eat (u, []) x.data.toList = eat (v, p.data.toList) s.data.toList) ∧ Blk wr w.heap.size (sc u p N) 56 ∧ Blk wr (w.heap.size + 1) ZS 56 ∧ Below w.heap.size w wr) (fun r _ => zs r)
  case atStart =>
    refine ⟨p ++ s, v, rfl, Nat.le_refl _, ?_, K, R, B⟩
    show _ = _
    have := eat_part v p.data.toList s.data.toList (by simpa using h7)
    rw [this]
    simp
  case round =>
    clear K R B
    obtain ⟨x, u, rfl, hx, he, K, R, B⟩ := hrel
    by_cases h8 : 8 ≤ x.size
    · have h8' : (8 : Int) ≤ x.size := by omega
      have s1 : ∀ y, (Instr.slice 9 (.string x) none (some (.int .i64 8)) none).run Try.prog y = .ok (.string (x.extract 0 8)) y := fun y => by
        have := run_slice_string_h y 9 x Try.underlying9 .i64 8 (by omega) (by omega)
        simpa using this
      have s2 : ∀ y, (Instr.slice 9 (.string x) (some (.int .i64 8)) none none).run Try.prog y = .ok (.string (x.extract 8 x.size)) y := fun y =>
        run_slice_string_l y 9 x Try.underlying9 .i64 8 (by omega) (by omega)
      go_upto_region 6 with fail
      refine gen2 (p := fun W => Code.wp _ _ _ _ W) K R B ?_
      clear K R B
      intro W K R B
      have ck := ab.cells K
      have ne := ab.ne W
      have z8 : (x.extract 0 8).size = 8 := by rw [ByteArray.size_extract]; omega
      refine lsn.region 7 _ (ab.Ab W) (by kernel_rfl) (by simp only [List.take]; exact rfl) (by simp only [List.drop]; exact rfl) (by kernel_rfl) (by kernel_rfl) (ab.Ab.drew _) ?_
      repeat (go_big_quiet_step (first | (go_at_call 35; exact ab.call_same (number_any (x.extract 0 8) _ (by omega))) | (go_at_call 34; exact ab.call (take_any u _ _))))
      refine wpQuiet_nil ?_
      intro _ hx'
      obtain ⟨x', rfl⟩ := hx'
      clear ck ne
      replace K := K.below x'.h K.lt
      replace R := R.below x'.h R.lt
      replace B := B.trans (x'.h.mono (Below.size B))
      generalize x'.W = W at *
      have ck := K.cell
      have fk := K.free
      go_upto_region 7 with fail
      clear ck fk
      refine put4 (p := fun W => Code.wp _ _ _ _ W) K R B (by omega) (by omega) ?_
      clear K R B
      intro W (K : Blk _ _ (sc (tk u (eight (List.take 8 x.data.toList))) p N) _) R B
      go_wp2_with fail
      go_roundw
      case rel =>
        refine ⟨x.extract 8 x.size, _, rfl, by rw [ByteArray.size_extract]; omega, ?_, K, R, B⟩
        show _ = _
        rw [← he.out]
        have hx8 : x.data.toList = x.data.toList.take 8 ++ x.data.toList.drop 8 := (List.take_append_drop 8 _).symm
        have hl : x.data.toList.length = x.size := by simp
        conv => rhs; rw [hx8]
        rw [eat_chunk u _ _ (by rw [List.length_take]; omega), drop8 x]
      case measure => simp [zs, ByteArray.size_extract]; omega
    · have h8' : ¬ (8 : Int) ≤ x.size := by omega
      have hxU : eat (u, []) x.data.toList = (u, x.data.toList) := by
        have hl : x.data.toList.length = x.size := by simp
        rw [eat_few x.data.toList u [] (by simp; omega)]
        rfl
      have HU : Hid (u = U ∧ x = Y) := by
        rw [EU.out, EY.out]
        unfold ev ep
        rw [← he.out, hxU]
        exact (⟨rfl, rfl⟩ : _ ∧ _)
      clear hxU
      go_wp2_with fail
      refine (clone_any x _ (by omega)).mono ?_
      rintro e W3 ⟨rfl, q⟩
      replace K := K.below q K.lt
      replace R := R.below q R.lt
      replace B := B.trans (q.mono (Below.size B))
      clear q
      have ck := K.cell
      have fk := K.free
      go_upto_region 9 with fail
      clear ck fk
      refine put (p := fun W => Code.wp _ _ _ _ W) K R B (by omega) (by omega) ?_
      clear K R B
      intro W (K : Blk _ _ (sc u x N) _) R B
      go_wp2_with (first | (refine blk_load _ rfl 56 _ rfl _ rfl _ _ K _ Try.underlying56 rfl 6 sp_info rfl ?_) | (refine blk_store _ rfl 56 _ _ rfl _ (sc u x N) rfl rfl _ _ R 6 sp_info rfl rfl (sp_one _ _ _ _ _ _) ?_; intro W2 R2 p2))
      refine blk_ret2 rfl rfl _ _ _ rfl R2 _ Try.underlying56 rfl 6 sp_info rfl ⟨?_, p2.below B (by omega)⟩
      obtain ⟨rfl, rfl⟩ := HU.out
      rfl
set_option maxHeartbeats 4000000 in
theorem more_no (v : V4) (p s : ByteArray) (n : Int) (w : World) (h : okf p n = false) :
    Calls Try.prog 26 #[.agg (sc v p n), .string s] w fun e w' => e = .returned (.tuple #[.agg (sc v p n), .int .i64 4]) ∧ Below w.heap.size w w' := by
  have K0 : Blk ((w.alloc (.cells (sc v p n) 56)).alloc (.cells ZS 56)) w.heap.size (sc v p n) 56 := (Blk.new _ _ _).alloc _
  have R0 : Blk ((w.alloc (.cells (sc v p n) 56)).alloc (.cells ZS 56)) (w.heap.size + 1) ZS 56 := Blk.newAt _ _ _ (by simp)
  have B0 := ((Below.refl w.heap.size w).alloc (Nat.le_refl _) (.cells (sc v p n) 56)).alloc (by simp) (.cells ZS 56)
  go_enter Try.func26, Try.ntmps26
  go_upto_region 1 with fail
  refine gen2 (p := fun W => Code.wp _ _ _ _ W) K0 R0 B0 ?_
  clear K0 R0 B0
  intro W K R B
  go_wp2_with (refine blk_load _ rfl 56 _ rfl _ rfl _ _ K _ Try.underlying56 rfl 6 sp_info rfl ?_)
  refine (inForm_any v p n _).mono ?_
  rintro e W1 ⟨rfl, q⟩
  replace K := K.below q K.lt
  replace R := R.below q R.lt
  replace B := B.trans (q.mono (Below.size B))
  rw [h]
  clear h q
  go_wp2_with (first | (refine blk_load _ rfl 56 _ rfl _ rfl _ _ K _ Try.underlying56 rfl 6 sp_info rfl ?_) | (refine blk_store _ rfl 56 _ _ rfl _ (sc v p n) rfl rfl _ _ R 6 sp_info rfl rfl (sp_one _ _ _ _ _ _) ?_; intro W2 R2 p2))
  exact blk_ret2 rfl rfl _ _ _ rfl R2 _ Try.underlying56 rfl 6 sp_info rfl ⟨rfl, p2.below B (by omega)⟩
end Go.Proofs.Ytfaebenhjilkgaa.sipo
