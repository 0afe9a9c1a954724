/- What custref.FrameText answers of a frame without a tag that can be written. -/
import Derived.Test.YtolhmmnaohadcaaEthFt
namespace Go.Proofs.Ytolhmmnaohadcaa.ethf
open Go.ChangeShapes Go.WideShapes Go.ChangeAt Go.RowKit
open Go.Proofs.Ytolhmmnaohadcaa.EM Go.Proofs.Ytolhmmnaohadcaa.ethb Go.Proofs.Ytolhmmnaohadcaa.buf Go.Proofs.Ytolhmmnaohadcaa.refb Go.Proofs.Ytolhmmnaohadcaa.boxes

set_option maxHeartbeats 4000000 in
theorem ft_bare (t0 t1 t2 t3 t4 t5 f0 f1 f2 f3 f4 f5 : UInt8) (v y : Int) (d : ByteArray) (w : World) (hv : v = -1) (hyn : (y == 33024) = false) (hy : 0 ≤ y) (hy1 : y ≤ 65535) (hd : d.size ≤ 65535) :
    Calls Try.prog 7 #[.agg (frame t0.toNat t1.toNat t2.toNat t3.toNat t4.toNat t5.toNat f0.toNat f1.toNat f2.toNat f3.toNat f4.toNat f5.toNat v y d)] w fun e w' =>
      e = .returned (.tuple #[.string ⟨(wrl t0 t1 t2 t3 t4 t5 f0 f1 f2 f3 f4 f5 v y d).toArray⟩, .int .i64 0]) ∧ Below w.heap.size w w' := by
  subst hv
  go_enter Try.func7, Try.ntmps7
  go_wp2_with fail
  refine (between_any _ _ _ _).mono ?_
  rintro e w1 ⟨rfl, rfl⟩
  rw [decide_eq_true (by omega)]
  go_wp2_with fail
  refine (between_any _ _ _ _).mono ?_
  rintro e w1 ⟨rfl, rfl⟩
  rw [decide_eq_true (by omega)]
  go_upto_region 10 with fail
  go_cut [5] (fun t wx => t = .string ⟨#[]⟩ ∧ Blk wx w.heap.size (frame t0.toNat t1.toNat t2.toNat t3.toNat t4.toNat t5.toNat f0.toNat f1.toNat f2.toNat f3.toNat f4.toNat f5.toNat (-1) y d) 25 ∧ Below w.heap.size w wx)
  case first =>
    go_wp2_with fail
    go_meet
    exact ⟨rfl, Blk.new _ _ _, (Below.refl _ _).alloc (Nat.le_refl _) _⟩
  case rest =>
    obtain ⟨rfl, F, hb⟩ := hcut
    have cf := F.cell
    have lf := F.lt
    go_upto_region 11 with fail
    go_cut [39, 40, 41] (fun r n i wx => n = .int .i64 12 ∧ i = .int .i64 0 ∧ Own wx (w.heap.size + 1) r [t0, t1, t2, t3, t4, t5, f0, f1, f2, f3, f4, f5] ∧ Blk wx w.heap.size (frame t0.toNat t1.toNat t2.toNat t3.toNat t4.toNat t5.toNat f0.toNat f1.toNat f2.toNat f3.toNat f4.toNat f5.toNat (-1) y d) 25 ∧ Below w.heap.size w wx)
    case first =>
      go_region_law (first
        | (refine step_app rfl (.tmp 33) (.tmp 35) rfl (w.heap.size + 1) (.slice (some ⟨wc.heap.size, 0, none⟩) 0 0) [] (by simp [Act.eval]) (Own.drew (Own.empty _ _ (by omega))) ⟨w.heap.size, 0, none⟩ 6 6 [t0, t1, t2, t3, t4, t5] (by simp [Act.eval]) rfl (src6 (Blk.drew (F.alloc _)) t0 t1 t2 t3 t4 t5 (frm0 _ _ _ _ _ _ _ _ _ _ _ _ _ _ _)) (by simp) (by simp; omega) ?_; intro v1 w1 o1 l1; have F1 := (Blk.drew (F.alloc _)).below l1 (by omega); have b1 := (Below.drew (hb.alloc (by omega) _)).trans (l1.mono (by omega)); have z1 := l1.size; simp at z1)
        | (refine step_app rfl (.tmp 36) (.tmp 38) rfl (w.heap.size + 1) v1 _ (by simp [Act.eval]) o1 ⟨w.heap.size, 6, none⟩ 6 6 [f0, f1, f2, f3, f4, f5] (by simp [Act.eval]) rfl (src6 F1 f0 f1 f2 f3 f4 f5 (frm6 _ _ _ _ _ _ _ _ _ _ _ _ _ _ _)) (by simp) (by omega) ?_; intro v2 w2 o2 l2; have F2 := F1.below l2 (by omega); have b2 := b1.trans (l2.mono (by omega)); obtain ⟨g, cp, hv2, hg1, hg2, hg3⟩ := o2.form (by simp); simp at hv2; subst hv2))
      all_goals go_wp2_with fail
      all_goals go_meet
      all_goals exact ⟨rfl, rfl, o2, F2, b2⟩
    case rest =>
      obtain ⟨rfl, rfl, o2, F2, b2⟩ := hcut
      obtain ⟨g, cp, hv2, hg1, hg2, hg3⟩ := o2.form (by simp)
      simp at hv2
      subst hv2
      obtain ⟨l, hl⟩ : ∃ l, l = [t0, t1, t2, t3, t4, t5, f0, f1, f2, f3, f4, f5] := ⟨_, rfl⟩
      rw [← hl] at hg3
      have hll : l.length = 12 := by rw [hl]; rfl
      have HL : Hid (l = [t0, t1, t2, t3, t4, t5, f0, f1, f2, f3, f4, f5]) := hl
      clear hl o2 cf lf
      go_wp2_with fail
      go_loopw [5, 41] (fun s i wr => ∃ k : Nat, k ≤ 12 ∧ i = .int .i64 k ∧ s = .string ⟨(l.take k).toArray⟩ ∧ Below wc.heap.size wc wr) (fun _ i _ => 12 - (intOf i).toNat)
      case atStart => exact ⟨0, by omega, rfl, by simp, Below.refl _ _⟩
      case round =>
        obtain ⟨k, hk, rfl, rfl, bel⟩ := hrel
        by_cases hlt : k < 12
        · have src : wr.cell? ⟨g, k, none⟩ = some (.int .u8 ((l.getD k 0).toNat : Int)) := (bel.cell (p := ⟨g, k, none⟩) hg2).trans (hg3 k (by rw [hll]; exact hlt))
          obtain ⟨x, X⟩ : ∃ x, x = l.getD k 0 := ⟨_, rfl⟩
          rw [← X] at src
          have hs : Hid ((⟨(l.take k).toArray⟩ : ByteArray) ++ ⟨#[b8 (x.toNat : Int)]⟩ = ⟨(l.take (k + 1)).toArray⟩) := by
            show _ = _
            apply bytes_ext
            have hkl : k < l.length := by omega
            rw [List.take_succ_eq_append_getElem hkl]
            have : l[k] = x := by rw [X, List.getD_eq_getElem?_getD, List.getElem?_eq_getElem hkl]; rfl
            simp [b8_byte, this]
          have z := bel.size
          have x0 : (0 : Int) ≤ x.toNat := by omega
          have x1 : (x.toNat : Int) ≤ 255 := by have := x.toNat_lt; omega
          clear X
          go_wp2_with fail
          refine (bytes_any _ wr.heap.size 0 1 [(x.toNat : Int)] (by simp) (by simp) ?_).mono ?_
          · intro j hj
            match j, hj with
            | 0, _ => simp
          rintro e w3 ⟨rfl, hb3⟩
          go_wp2_with fail
          go_roundw
          case rel => exact ⟨k + 1, by omega, by go_num, by rw [hs.out], (bel.alloc (by omega) _).trans (hb3.mono (by simp; omega))⟩
          case measure => simp [intOf]; omega
        · have e : k = 12 := by omega
          have hs : (l.take k) = l := by rw [e]; exact List.take_of_length_le (by omega)
          rw [hs]
          clear hs e
          have F3 := F2.below bel F2.lt
          have b3 := b2.trans (bel.mono (by have := b2.size; omega))
          have cf := F3.cell
          have lf := F3.lt
          go_wp2_with fail
          go_region_with (go_at_call 16; refine (word_ref _ _ hy hy1).mono ?_; rintro e w3 ⟨rfl, hb3⟩; have c4 := (Blk.below (W := _) (by first | exact F3 | exact Blk.drew F3) hb3 lf).cell)
          all_goals go_wp2_with fail
          all_goals go_ret2
          all_goals exact ⟨ret_text (bytes_ext (by simp [wrl, tagl, HL.out])) rfl, (Below.drew b3).trans (hb3.mono (by have := b3.size; simp; omega))⟩
end Go.Proofs.Ytolhmmnaohadcaa.ethf
