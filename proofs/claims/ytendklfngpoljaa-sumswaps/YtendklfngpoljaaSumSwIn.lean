/- SumSwaps, for a text of an even number of bytes, and for another. -/
import Derived.Test.YtendklfngpoljaaSumRow
import Derived.RegionTactic
import Derived.Deep.DeepCutAuto
namespace Go.Proofs.Ytendklfngpoljaa.ssw
open Go.ChangeShapes Go.WideShapes Go.ChangeAt Go.RowKit
open Go.Proofs.Ytendklfngpoljaa.SM Go.Proofs.Ytendklfngpoljaa.sumw Go.Proofs.Ytendklfngpoljaa.sumk Go.Proofs.Ytendklfngpoljaa.srow
theorem bq {B : Nat} {a b c : World} (h : Below B a b) (q : Qd b c) : Below B a c := by
  obtain ⟨m, rfl⟩ := q; exact ⟨h.os, h.tape, h.output, h.size, h.block⟩
theorem Qd.size {a b : World} (q : Qd a b) : b.heap.size = a.heap.size := by
  obtain ⟨m, rfl⟩ := q; rfl
theorem sw_keep (l : List UInt8) (k j : Nat) (h : j < (sw (l.take k) ++ l.drop k).length) (hk : k ≤ j ∧ j < l.length) : (sw (l.take k) ++ l.drop k)[j] = l[j]'hk.2 := by
  have e : (sw (l.take k)).length = k := by rw [sw_length, List.length_take]; omega
  rw [List.getElem_append_right (by omega), List.getElem_drop]
  congr 1; omega
theorem odd (s : ByteArray) (w : World) (h : ((s.size : Int) % 2 == 1) = true) (hs : s.size ≤ 140737488351232) :
    Calls Try.prog 7 #[.string s] w fun e w' => e = .returned (.bool true) ∧ Below w.heap.size w w' := by
  go_enter Try.func7, Try.ntmps7
  go_wp2_with fail
  refine (lives _).mono ?_
  rintro e w1 ⟨rfl, q1⟩
  go_wp2_with fail
  refine (lives _).mono ?_
  rintro e w2 ⟨rfl, q2⟩
  go_wp2_with fail
  go_ret
  exact ⟨rfl, bq (bq (Below.refl _ _) q1) q2⟩
set_option maxHeartbeats 800000 in
theorem even (s : ByteArray) (w : World) (h : ((s.size : Int) % 2 == 1) = false) (hs : s.size ≤ 140737488351232) :
    Calls Try.prog 7 #[.string s] w fun e w' => e = .returned (.bool true) ∧ Below w.heap.size w w' := by
  have hcv : ∀ u : World, (convert 9 40 (.string s)).run Try.prog u = .ok (.slice (some ⟨u.heap.size, 0, none⟩) s.size (grownCap u s.size 0 5))
      (u.drew.alloc (.cells (bytesRow s (grownCap u s.size 0 5)) 5 ((bytesRow s (grownCap u s.size 0 5)).size, (bytesRow s (grownCap u s.size 0 5)).size + 1))) :=
    fun u => run_bytes_of_string u _ _ _ s Try.underlying9 Try.underlying40 Try.underlying5
  go_enter Try.func7, Try.ntmps7
  go_wp2_with fail
  refine (lives _).mono ?_
  rintro e w1 ⟨rfl, q1⟩
  go_upto_region 3 with fail
  go_cut [3] (fun v wx => ∃ cap, v = .slice (some ⟨w.heap.size, 0, none⟩) s.size cap ∧ Row wx w.heap.size s.data.toList ∧ Below w.heap.size w wx ∧ w.heap.size < wx.heap.size)
  case first =>
    go_wp2_with fail
    go_meet
    have hz := Qd.size q1
    have hrow := Row.made w1 s (grownCap w1 s.size 0 5) 5
    rw [← hz]
    refine ⟨_, rfl, hrow.drew, (Below.alloc ?_ (Nat.le_refl _) _).drew, by simp⟩
    have hb : Below w1.heap.size w w1 := bq (Below.refl _ _) q1
    exact hb
  case rest =>
    obtain ⟨cap, rfl, hrow, hbel, hlt⟩ := hcut
    have hev : s.size % 2 = 0 := by simp at h; omega
    clear hcv q1
    generalize hB : w.heap.size = B at *
    have HB : Hid _ := hB
    clear hB
    have hl : s.data.toList.length = s.size := by simp
    go_wp2_with fail
    go_loopw [4] (fun i wr => ∃ k : Nat, k ≤ s.size ∧ k % 2 = 0 ∧ i = .int .i64 k ∧ Row wr B (sw (s.data.toList.take k) ++ s.data.toList.drop k) ∧ Below B w wr ∧ B < wr.heap.size) (fun i _ => s.size - (intOf i).toNat)
    case atStart => exact ⟨0, Nat.zero_le _, rfl, rfl, hrow, hbel, hlt⟩
    case round =>
      obtain ⟨k, hk, hk2, rfl, hr, hbr, hwr⟩ := hrel
      by_cases hkl : k + 1 < s.size
      · have hrl : (sw (s.data.toList.take k) ++ s.data.toList.drop k).length = s.size := by
          rw [List.length_append, sw_length, List.length_take, List.length_drop]; omega
        have c0 := hr k (by omega)
        have c1 := hr (k + 1) (by omega)
        have v0 : (sw (s.data.toList.take k) ++ s.data.toList.drop k)[k]'(by omega) = s.data.toList[k]'(by omega) := sw_keep _ _ _ _ (by omega)
        have v1 : (sw (s.data.toList.take k) ++ s.data.toList.drop k)[k + 1]'(by omega) = s.data.toList[k + 1]'(by omega) := sw_keep _ _ _ _ (by omega)
        rw [v0] at c0
        rw [v1] at c1
        obtain ⟨c0, f0⟩ := c0
        obtain ⟨c1, f1⟩ := c1
        have hkk : (k : Int) < s.size := by omega
        have hk1 : (k : Int) + 1 < s.size := by omega
        have st := sw_step s.data.toList k hk2 (by omega)
        have hput := (hr.put k (by omega) s.data.toList[k + 1]).put (k + 1) (by rw [List.length_set]; omega) s.data.toList[k]
        rw [st] at hput
        have hb2 := (hbr.setCell (p := ⟨B, k, none⟩) (Nat.le_refl _) (.int .u8 (s.data.toList[k + 1].toNat : Int))).setCell (p := ⟨B, k + 1, none⟩) (Nat.le_refl _) (.int .u8 (s.data.toList[k].toNat : Int))
        clear v0 v1 st hr hbr hrl
        generalize s.data.toList[k] = x at *
        generalize s.data.toList[k + 1] = y at *
        have PUT : Hid _ := hput
        have BEL : Hid _ := hb2
        clear hput hb2
        go_wp2_with fail
        go_region
        go_wp2_with fail
        go_roundw
        case rel => exact ⟨k + 2, by omega, by omega, by go_num, Row.drew PUT.out, Below.drew BEL.out, by simpa using hwr⟩
        case measure => simp [intOf]; omega
      · have hke : k = s.size := by omega
        have hno : ¬ (k : Int) < s.size := by omega
        have hrw : Row wr B (sw s.data.toList) := by
          have e1 : s.data.toList.take k = s.data.toList := List.take_of_length_le (by omega)
          have e2 : s.data.toList.drop k = [] := List.drop_eq_nil_of_le (by omega)
          rw [e1, e2, List.append_nil] at hr; exact hr
        have hsl : (sw s.data.toList).length = s.size := by rw [sw_length, hl]
        have hsum := sw_sum s.data.toList (by omega)
        have wbd := wsum_bd 0 s.data.toList (by omega) (by omega)
        have hrb := rot_bits _ wbd.1 wbd.2
        have HS : Hid (wsum 0 (⟨(sw s.data.toList).toArray⟩ : ByteArray).data.toList = rot (wsum 0 s.data.toList)) := hsum
        have hsz : (⟨(sw s.data.toList).toArray⟩ : ByteArray).size ≤ 281474976710656 := by
          show (sw s.data.toList).toArray.size ≤ _
          rw [List.size_toArray, hsl]; omega
        clear hr hke hsum
        go_wp2_with fail
        refine (add_any 0 s _ (by omega) (by omega) (by omega)).mono ?_
        rintro e w2 ⟨rfl, q2⟩
        have hback : (convert 40 9 (.slice (some ⟨B, 0, none⟩) s.size cap)).run Try.prog w2 = .ok (.string ⟨(sw s.data.toList).toArray⟩) w2 := by
          have hrow2 := hrw.quiet q2
          have := run_convert_bytes_back (P := Try.prog) w2 40 9 5 ⟨B, 0, none⟩ cap (sw s.data.toList) Try.underlying40 Try.underlying5 Try.underlying9
            (fun j hj => by
              have e : (⟨B, 0, none⟩ : Addr).add j = ⟨B, j, none⟩ := by unfold Addr.add; split <;> simp_all
              rw [e]; exact (hrow2 j hj).1)
          rw [hsl] at this; exact this
        go_wp2_with fail
        refine (add_any 0 _ _ (by omega) (by omega) hsz).mono ?_
        rintro e w3 ⟨rfl, q3⟩
        rw [HS.out]
        go_wp2_with fail
        go_ret
        refine ⟨?_, ?_⟩
        · rfl
        · have hfin := bq (bq hbr q2) q3
          rw [HB.out]; exact hfin
end Go.Proofs.Ytendklfngpoljaa.ssw
