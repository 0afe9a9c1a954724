/- What custref.SipMore answers: byte by byte it is what package sip's More answers. -/
import Derived.Test.YtfaebenhjilkgaaSipMore
namespace Go.Proofs.Ytfaebenhjilkgaa.sipq
open Go.ChangeShapes Go.WideShapes Go.ChangeAt Go.RowKit Go.BigFrame
open Go.Proofs.Ytfaebenhjilkgaa Go.Proofs.Ytfaebenhjilkgaa.sipm Go.Proofs.Ytfaebenhjilkgaa.boxes Go.Proofs.Ytfaebenhjilkgaa.sipb Go.Proofs.Ytfaebenhjilkgaa.sipt Go.Proofs.Ytfaebenhjilkgaa.sipn Go.Proofs.Ytfaebenhjilkgaa.sipf Go.Proofs.Ytfaebenhjilkgaa.sipr Go.Proofs.Ytfaebenhjilkgaa.sipo
open Go.Proofs.Ytfaebenhjilkgaa.sumw (Qd Qd.refl Qd.drewN Qd.trans)

/-- one byte of a text -/
theorem one_size (s : ByteArray) (k : Nat) (h : k < s.size) : (s.extract k (k + 1)).size = 1 := by rw [ByteArray.size_extract]; omega
theorem one_list (s : ByteArray) (k : Nat) (h : k < s.size) : (s.extract k (k + 1)).data.toList = [s[k]] := by
  have hl : s.data.toList.length = s.size := by simp
  simp only [ByteArray.data_extract, Array.toList_extract, List.extract]
  rw [drop_at s k h]
  simp
theorem app_list (p q : ByteArray) : (p ++ q).data.toList = p.data.toList ++ q.data.toList := by rw [ByteArray.data_append, Array.toList_append]
/-- four cells of a block are written, and the one behind them; another stands -/
theorem put5 {W w : World} {b c n : Nat} {F G : Array Value} {t u : TypeId} {x0 x1 x2 x3 x4 : Value} {p : World → Prop} (h1 : Blk W b F t) (h2 : Blk W c G u) (h3 : Below n w W) (hb : n ≤ b) (hc : c ≠ b)
    (h : ∀ W', Blk W' b (((((F.setIfInBounds 0 x0).setIfInBounds 1 x1).setIfInBounds 2 x2).setIfInBounds 3 x3).setIfInBounds 4 x4) t → Blk W' c G u → Below n w W' → p W') : p (((((W.setCell ⟨b, 0, none⟩ x0).setCell ⟨b, 1, none⟩ x1).setCell ⟨b, 2, none⟩ x2).setCell ⟨b, 3, none⟩ x3).setCell ⟨b, 4, none⟩ x4) :=
  put4 (p := fun W' => p (W'.setCell ⟨b, 4, none⟩ x4)) h1 h2 h3 hb hc fun _ a1 a2 a3 => put a1 a2 a3 hb hc h
set_option maxHeartbeats 4000000 in
theorem rmore_ok (v : V4) (p s : ByteArray) (n : Int) (w : World) (h : okf p n = true) (hn : n + (s.size : Int) ≤ 9223372036854775807) (hs : s.size ≤ 281474976710600) :
    Calls Try.prog 30 #[.agg (sc v p n), .string s] w fun e w' => e = .returned (.tuple #[.agg (sc (ev v p s) (ep v p s) (n + s.size)), .int .i64 0]) ∧ Below w.heap.size w w' := by
  have hp : 0 ≤ n ∧ p.size ≤ 7 := by
    unfold okf at h
    simp at h
    omega
  obtain ⟨h0, h7⟩ := hp
  have hl : s.data.toList.length = s.size := by simp
  obtain ⟨U, eU⟩ : ∃ U, U = ev v p s := ⟨_, rfl⟩
  obtain ⟨Y, eY⟩ : ∃ Y, Y = ep v p s := ⟨_, rfl⟩
  rw [← eU, ← eY]
  have EU : Hid (U = _) := eU
  have EY : Hid (Y = _) := eY
  clear eU eY
  have K0 : Blk ((w.alloc (.cells (sc v p n) 56)).alloc (.cells ZS 56)) w.heap.size (sc v p n) 56 := (Blk.new _ _ _).alloc _
  have R0 : Blk ((w.alloc (.cells (sc v p n) 56)).alloc (.cells ZS 56)) (w.heap.size + 1) ZS 56 := Blk.newAt _ _ _ (by simp)
  have B0 := ((Below.refl w.heap.size w).alloc (Nat.le_refl _) (.cells (sc v p n) 56)).alloc (by simp) (.cells ZS 56)
  go_enter Try.func30, Try.ntmps30
  go_upto_region 1 with fail
  refine gen2 (p := fun W => Code.wp _ _ _ _ W) K0 R0 B0 ?_
  clear K0 R0 B0
  intro W K R B
  go_wp2_with (refine blk_load _ rfl 56 _ rfl _ rfl _ _ K _ Try.underlying56 rfl 6 sp_info rfl ?_)
  refine (right_any v p n _).mono ?_
  rintro e W1 ⟨rfl, q⟩
  replace K := K.below q K.lt
  replace R := R.below q R.lt
  replace B := B.trans (q.mono (Below.size B))
  rw [ef_t h]
  clear h q
  go_wp2_with fail
  go_loopw [16] (fun i wr => ∃ (k : Nat) (u : V4) (P : ByteArray), i = .int .i64 (k : Int) ∧ k ≤ s.size ∧ P.size ≤ 7 ∧ Hid (eat (v, p.data.toList) (s.data.toList.take k) = (u, P.data.toList)) ∧ Blk wr w.heap.size (sc u P (n + k)) 56 ∧ Blk wr (w.heap.size + 1) ZS 56 ∧ Below w.heap.size w wr) (fun i _ => s.size - (intOf i).toNat)
  case atStart =>
    refine ⟨0, v, p, rfl, Nat.zero_le _, h7, (rfl : _ = _), ?_, R, B⟩
    simpa using K
  case round =>
    clear K R B
    obtain ⟨k, u, P, rfl, hk, hP, he, K, R, B⟩ := hrel
    by_cases hlt : k < s.size
    · have hlt' : (k : Int) < s.size := by omega
      have sl : ∀ y, (Instr.slice 9 (.string s) (some (.int .i64 (k : Int))) (some (.int .i64 ((k : Int) + 1))) none).run Try.prog y = .ok (.string (s.extract k (k + 1))) y := fun y => by
        have := run_slice_string (P := Try.prog) y 9 s .i64 .i64 (k : Int) ((k : Int) + 1) Try.underlying9 (by omega) (by omega) (by omega)
        simpa using this
      go_upto_region 7 with fail
      refine gen2 (p := fun W => Code.wp _ _ _ _ W) K R B ?_
      clear K R B
      intro W K R B
      have ck := ab.cells K
      have ne := ab.ne W
      have zp := sz_app P (s.extract k (k + 1))
      have z1 := one_size s k hlt
      refine lsn.region 9 _ (ab.Ab W) (by kernel_rfl) (by simp only [List.take]; exact rfl) (by simp only [List.drop]; exact rfl) (by kernel_rfl) (by kernel_rfl) (ab.Ab.drew _) ?_
      repeat (go_big_quiet_step (fail))
      refine wpQuiet_nil ?_
      intro _ hx'
      obtain ⟨x', rfl⟩ := hx'
      clear ck ne
      replace K := K.below x'.h K.lt
      replace R := R.below x'.h R.lt
      replace B := B.trans (x'.h.mono (Below.size B))
      generalize x'.W = W at *
      have ck := K.cell
      have fk := K.free
      go_upto_region 8 with fail
      clear ck fk
      have lE := app_list P (s.extract k (k + 1))
      rw [one_list s k hlt] at lE
      have zE : (P ++ s.extract k (k + 1)).size = P.size + 1 := by rw [zp, z1]
      clear zp z1
      refine put (p := fun W => Code.wp _ _ _ _ W) K R B (by omega) (by omega) ?_
      clear K R B sl
      generalize P ++ s.extract k (k + 1) = E at *
      have HL : Hid (E.data.toList = P.data.toList ++ [s[k]]) := lE
      clear lE
      intro W (K : Blk _ _ (sc u E (n + k)) _) R B
      have hw : IntKind.i64.wrap (n + (k : Int) + 1) = n + (k : Int) + 1 := w64 _ (by omega) (by omega)
      have ck := K.cell
      have fk := K.free
      go_upto_region 9 with fail
      clear ck fk
      refine put (p := fun W => Code.wp _ _ _ _ W) K R B (by omega) (by omega) ?_
      clear K R B
      intro W (K : Blk _ _ (sc u E (n + k + 1)) _) R B
      have hst : s.data.toList.take (k + 1) = s.data.toList.take k ++ [s[k]] := take_at s k hlt
      have hz7 : P.data.toList.length = P.size := by simp
      by_cases hP7 : P.size = 7
      · have zE8 : (E.size : Int) = 8 := by omega
        have HT : Hid (eat (v, p.data.toList) (s.data.toList.take (k + 1)) = (tk u (eight E.data.toList), [])) := by
          rw [hst, eat_app, he.out, HL.out]
          show stp (u, P.data.toList) s[k] = _
          unfold stp
          rw [if_pos (by show P.data.toList.length = 7; omega)]
        clear hst
        have ck := K.cell
        go_upto_region 10 with fail
        clear ck
        refine gen2 (p := fun W => Code.wp _ _ _ _ W) K R B ?_
        clear K R B
        intro W K R B
        have ck := ab.cells K
        have ne := ab.ne W
        have z8 : E.size = 8 := by omega
        generalize hM : eight E.data.toList = M at HT
        have C8 : ∀ y, Calls Try.prog 40 #[.string E] y fun e w' => e = .returned (nm M) ∧ w' = y := fun y => by rw [← hM]; exact eight_any E y z8
        clear hM
        obtain ⟨T, hT⟩ : ∃ T, T = tk u M := ⟨_, rfl⟩
        have CT : ∀ y, Calls Try.prog 39 #[.agg (cl u), nm M] y fun e w' => e = .returned (.agg (cl T)) ∧ Below y.heap.size y w' := fun y => by rw [hT]; exact stake_any u M y
        rw [← hT] at HT
        clear hT
        refine lsn.region 7 _ (ab.Ab W) (by kernel_rfl) (by simp only [List.take]; exact rfl) (by simp only [List.drop]; exact rfl) (by kernel_rfl) (by kernel_rfl) (ab.Ab.drew _) ?_
        repeat (go_big_quiet_step (first | (go_at_call 40; exact ab.call_same (C8 _)) | (go_at_call 39; exact ab.call (CT _))))
        refine wpQuiet_nil ?_
        intro _ hx'
        obtain ⟨x', rfl⟩ := hx'
        clear ck ne
        replace K := K.below x'.h K.lt
        replace R := R.below x'.h R.lt
        replace B := B.trans (x'.h.mono (Below.size B))
        generalize x'.W = W at *
        have ck := K.cell
        have fk := K.free
        go_upto_region 11 with fail
        clear ck fk
        refine put5 (p := fun W => Code.wp _ _ _ _ W) K R B (by omega) (by omega) ?_
        clear K R B
        intro W (K : Blk _ _ (sc T ⟨#[]⟩ (n + k + 1)) _) R B
        go_wp2_with fail
        go_roundw
        case rel =>
          refine ⟨k + 1, T, ⟨#[]⟩, by simp, by omega, by decide, HT, ?_, R, B⟩
          rw [Int.natCast_add, ← Int.add_assoc]
          exact K
        case measure => simp [intOf]; omega
      · have zE8 : ¬ (E.size : Int) = 8 := by omega
        have HT : Hid (eat (v, p.data.toList) (s.data.toList.take (k + 1)) = (u, E.data.toList)) := by
          rw [hst, eat_app, he.out, HL.out]
          show stp (u, P.data.toList) s[k] = _
          unfold stp
          rw [if_neg (by show ¬ P.data.toList.length = 7; omega)]
        clear hst
        have ck := K.cell
        go_wp2_with fail
        go_roundw
        case rel =>
          refine ⟨k + 1, u, E, by simp, by omega, by omega, HT, ?_, R, B⟩
          rw [Int.natCast_add, ← Int.add_assoc]
          exact K
        case measure => simp [intOf]; omega
    · have hlt' : ¬ (k : Int) < s.size := by omega
      obtain rfl : k = s.size := by omega
      have HU : Hid (u = U ∧ P = Y) := by
        have h1 := he.out
        rw [← hl, List.take_length] at h1
        rw [EU.out, EY.out]
        unfold ev ep
        rw [h1]
        exact (⟨rfl, rfl⟩ : _ ∧ _)
      clear he
      go_wp2_with (first | (refine blk_load _ rfl 56 _ rfl _ rfl _ _ K _ Try.underlying56 rfl 6 sp_info rfl ?_) | (refine blk_store _ rfl 56 _ _ rfl _ (sc u P (n + s.size)) rfl rfl _ _ R 6 sp_info rfl rfl (sp_one _ _ _ _ _ _) ?_; intro W2 R2 p2))
      refine blk_ret2 rfl rfl _ _ _ rfl R2 _ Try.underlying56 rfl 6 sp_info rfl ⟨?_, p2.below B (by omega)⟩
      obtain ⟨rfl, rfl⟩ := HU.out
      rfl
set_option maxHeartbeats 4000000 in
theorem rmore_no (v : V4) (p s : ByteArray) (n : Int) (w : World) (h : okf p n = false) :
    Calls Try.prog 30 #[.agg (sc v p n), .string s] w fun e w' => e = .returned (.tuple #[.agg (sc v p n), .int .i64 4]) ∧ Below w.heap.size w w' := by
  have K0 : Blk ((w.alloc (.cells (sc v p n) 56)).alloc (.cells ZS 56)) w.heap.size (sc v p n) 56 := (Blk.new _ _ _).alloc _
  have R0 : Blk ((w.alloc (.cells (sc v p n) 56)).alloc (.cells ZS 56)) (w.heap.size + 1) ZS 56 := Blk.newAt _ _ _ (by simp)
  have B0 := ((Below.refl w.heap.size w).alloc (Nat.le_refl _) (.cells (sc v p n) 56)).alloc (by simp) (.cells ZS 56)
  go_enter Try.func30, Try.ntmps30
  go_upto_region 1 with fail
  refine gen2 (p := fun W => Code.wp _ _ _ _ W) K0 R0 B0 ?_
  clear K0 R0 B0
  intro W K R B
  go_wp2_with (refine blk_load _ rfl 56 _ rfl _ rfl _ _ K _ Try.underlying56 rfl 6 sp_info rfl ?_)
  refine (right_any v p n _).mono ?_
  rintro e W1 ⟨rfl, q⟩
  replace K := K.below q K.lt
  replace R := R.below q R.lt
  replace B := B.trans (q.mono (Below.size B))
  rw [ef_f h]
  clear h q
  go_wp2_with (first | (refine blk_load _ rfl 56 _ rfl _ rfl _ _ K _ Try.underlying56 rfl 6 sp_info rfl ?_) | (refine blk_store _ rfl 56 _ _ rfl _ (sc v p n) rfl rfl _ _ R 6 sp_info rfl rfl (sp_one _ _ _ _ _ _) ?_; intro W2 R2 p2))
  exact blk_ret2 rfl rfl _ _ _ rfl R2 _ Try.underlying56 rfl 6 sp_info rfl ⟨rfl, p2.below B (by omega)⟩
end Go.Proofs.Ytfaebenhjilkgaa.sipq
