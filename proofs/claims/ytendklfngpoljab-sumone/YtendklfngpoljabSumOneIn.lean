/- SumOne: outside its conditions, and inside. -/
import Derived.Test.YtendklfngpoljabSumRow
import Derived.RegionTactic
import Derived.Deep.DeepCutAuto
namespace Go.Proofs.Ytendklfngpoljab.sone
open Go.ChangeShapes Go.WideShapes Go.ChangeAt Go.RowKit
open Go.Proofs.Ytendklfngpoljab.SM Go.Proofs.Ytendklfngpoljab.sumw Go.Proofs.Ytendklfngpoljab.sumk Go.Proofs.Ytendklfngpoljab.srow
theorem bq {B : Nat} {a b c : World} (h : Below B a b) (q : Qd b c) : Below B a c := by
  obtain ⟨m, rfl⟩ := q; exact ⟨h.os, h.tape, h.output, h.size, h.block⟩
theorem Qd.size {a b : World} (q : Qd a b) : b.heap.size = a.heap.size := by
  obtain ⟨m, rfl⟩ := q; rfl
theorem out1 (s : ByteArray) (x : Int) (w : World) (h : x < 0) :
    Calls Try.prog 3 #[.string s, .int .i64 x] w fun e w' => e = .returned (.bool true) ∧ Below w.heap.size w w' := by
  go_enter Try.func3, Try.ntmps3
  go_wp2_with fail
  refine (lives _).mono ?_
  rintro e w1 ⟨rfl, q1⟩
  go_wp2_with fail
  refine (lives _).mono ?_
  rintro e w2 ⟨rfl, q2⟩
  go_wp2_with fail
  go_ret
  exact ⟨rfl, bq (bq (Below.refl _ _) q1) q2⟩
theorem out2 (s : ByteArray) (x : Int) (w : World) (h : 0 ≤ x) (hx : x ≤ 9223372036854775807) (h2 : (s.size : Int) ≤ x / 8) :
    Calls Try.prog 3 #[.string s, .int .i64 x] w fun e w' => e = .returned (.bool true) ∧ Below w.heap.size w w' := by
  have h0 : ¬ x < 0 := by omega
  go_enter Try.func3, Try.ntmps3
  go_wp2_with fail
  refine (lives _).mono ?_
  rintro e w1 ⟨rfl, q1⟩
  go_wp2_with fail
  refine (lives _).mono ?_
  rintro e w2 ⟨rfl, q2⟩
  go_wp2_with fail
  go_ret
  exact ⟨rfl, bq (bq (Below.refl _ _) q1) q2⟩

theorem xor_step : ∀ x : Fin 256, ∀ r : Fin 8, (x.val ^^^ 2 ^ r.val = x.val + 2 ^ r.val ∨ (x.val ^^^ 2 ^ r.val) + 2 ^ r.val = x.val) ∧ x.val ^^^ 2 ^ r.val < 256 ∧ 0 < 2 ^ r.val ∧ 2 ^ r.val ≤ 128 := by decide +kernel
theorem pw_set : ∀ (l : List UInt8) (i : Nat) (h : i < l.length) (y : UInt8), pw (l.set i y) = pw l + (if i % 2 = 0 then 256 else 1) * ((y.toNat : Int) - (l[i].toNat : Int))
  | [], i, h, _ => by simp at h
  | [b], i, h, y => by
      have : i = 0 := by simp at h; omega
      subst this; simp [pw]; omega
  | b :: c :: r, 0, h, y => by simp [pw]; omega
  | b :: c :: r, 1, h, y => by simp [pw]; omega
  | b :: c :: r, i + 2, h, y => by
      have h' : i < r.length := by simpa using h
      have ih := pw_set r i h' y
      have e : (i + 2) % 2 = i % 2 := by omega
      simp only [List.set_cons_succ, pw, List.getElem_cons_succ, e]
      rw [ih]; omega
theorem norm_ne (a b : Int) (h0 : 0 ≤ a) (h1 : 0 ≤ b) (h : a ≠ b) (h2 : a - b < 65535) (h3 : b - a < 65535) : norm a ≠ norm b := by
  unfold norm; split <;> split <;> omega
/-- one bit turned -/
def turn (x : UInt8) (r : Nat) : UInt8 := UInt8.ofNat (x.toNat ^^^ 2 ^ r)
theorem turn_toNat (x : UInt8) (r : Nat) (hr : r < 8) : (turn x r).toNat = x.toNat ^^^ 2 ^ r := by
  have := (xor_step ⟨x.toNat, x.toNat_lt⟩ ⟨r, hr⟩).2.1
  unfold turn; rw [UInt8.toNat_ofNat']; exact Nat.mod_eq_of_lt this
theorem sum_ne (l : List UInt8) (i r : Nat) (h : i < l.length) (hr : r < 8) : wsum 0 l ≠ wsum 0 (l.set i (turn l[i] r)) := by
  rw [wsum_norm _ _ (by omega) (by omega), wsum_norm _ _ (by omega) (by omega), Int.zero_add, Int.zero_add]
  have hs := pw_set l i h (turn l[i] r)
  have ht := turn_toNat l[i] r hr
  have hx := xor_step ⟨l[i].toNat, l[i].toNat_lt⟩ ⟨r, hr⟩
  simp only at hx
  generalize 2 ^ r = p at hx ht
  have hd : ((turn l[i] r).toNat : Int) - (l[i].toNat : Int) = p ∨ ((turn l[i] r).toNat : Int) - (l[i].toNat : Int) = - (p : Int) := by rw [ht]; omega
  generalize ((turn l[i] r).toNat : Int) - (l[i].toNat : Int) = d at hs hd
  refine norm_ne _ _ (pw_nonneg _) (pw_nonneg _) ?_ ?_ ?_ <;> rw [hs] <;> split <;> omega

theorem bits_turn (x : UInt8) (r : Nat) (hr : r < 8) : bits .xor .u8 (x.toNat : Int) ((2 : Int) ^ r % 256) = ((turn x r).toNat : Int) := by
  have e : (2 : Int) ^ r % 256 = ((2 ^ r : Nat) : Int) := by
    have : r = 0 ∨ r = 1 ∨ r = 2 ∨ r = 3 ∨ r = 4 ∨ r = 5 ∨ r = 6 ∨ r = 7 := by omega
    rcases this with rfl | rfl | rfl | rfl | rfl | rfl | rfl | rfl <;> rfl
  have hx := (xor_step ⟨x.toNat, x.toNat_lt⟩ ⟨r, hr⟩).2.2.2
  simp only at hx
  rw [e, u8_xor_nat _ _ x.toNat_lt (by omega), turn_toNat x r hr]
set_option maxHeartbeats 800000 in
theorem inside (s : ByteArray) (i r : Nat) (w : World) (hi : i < s.size) (hr : r < 8) (hs : s.size ≤ 140737488351232) :
    Calls Try.prog 3 #[.string s, .int .i64 ((8 * i + r : Nat) : Int)] w fun e w' => e = .returned (.bool true) ∧ Below w.heap.size w w' := by
  have hcv : ∀ u : World, (convert 9 23 (.string s)).run Try.prog u = .ok (.slice (some ⟨u.heap.size, 0, none⟩) s.size (grownCap u s.size 0 5))
      (u.drew.alloc (.cells (bytesRow s (grownCap u s.size 0 5)) 5 ((bytesRow s (grownCap u s.size 0 5)).size, (bytesRow s (grownCap u s.size 0 5)).size + 1))) :=
    fun u => run_bytes_of_string u _ _ _ s Try.underlying9 Try.underlying23 Try.underlying5
  obtain ⟨x, hx⟩ : ∃ x : Int, x = ((8 * i + r : Nat) : Int) := ⟨_, rfl⟩
  rw [← hx]
  have hx0 : ¬ x < 0 := by omega
  have hx1 : 0 ≤ x := by omega
  have hx2 : x ≤ 1125899906842624 := by omega
  have hx3 : x / 8 < (s.size : Int) := by omega
  have X : Hid (x = ((8 * i + r : Nat) : Int)) := hx
  clear hx
  go_enter Try.func3, Try.ntmps3
  go_wp2_with fail
  refine (lives _).mono ?_
  rintro e w1 ⟨rfl, q1⟩
  go_upto_region 3 with fail
  go_cut [5] (fun v wx => ∃ cap, v = .slice (some ⟨w.heap.size, 0, none⟩) s.size cap ∧ Row wx w.heap.size s.data.toList ∧ Below w.heap.size w wx ∧ w.heap.size < wx.heap.size)
  case first =>
    go_wp2_with fail
    go_meet
    have hz := Qd.size q1
    have hrow := Row.made w1 s (grownCap w1 s.size 0 5) 5
    rw [← hz]
    refine ⟨_, rfl, hrow.drew, (Below.alloc ?_ (Nat.le_refl _) _).drew, by simp⟩
    have hb : Below w1.heap.size w w1 := bq (Below.refl _ _) q1
    exact hb
  case rest =>
    obtain ⟨cap, rfl, hrow, hbel, hlt⟩ := hcut
    clear hcv q1
    generalize hB : w.heap.size = B at *
    have HB : Hid _ := hB
    clear hB
    have hl : s.data.toList.length = s.size := by simp
    have hd8 : x / 8 = (i : Int) := by have := X.out; omega
    have hm8 : x % 8 = (r : Int) := by have := X.out; omega
    obtain ⟨c0, f0⟩ := hrow i (by omega)
    have hii : (i : Int) < s.size := by omega
    go_wp2_with fail
    go_region
    rw [bits_turn _ _ hr]
    have hput : Row (wc.setCell ⟨B, i, none⟩ (.int .u8 ((turn s.data[i] r).toNat : Int))).drew B (s.data.toList.set i (turn s.data[i] r)) := (hrow.put i (by omega) _).drew
    have hb2 : Below B w (wc.setCell ⟨B, i, none⟩ (.int .u8 ((turn s.data[i] r).toNat : Int))).drew := (hbel.setCell (p := ⟨B, i, none⟩) (Nat.le_refl _) _).drew
    generalize (wc.setCell ⟨B, i, none⟩ (.int .u8 ((turn s.data[i] r).toNat : Int))).drew = W at hput hb2 ⊢
    have hne : wsum 0 s.data.toList ≠ wsum 0 (s.data.toList.set i (turn s.data[i] r)) := sum_ne s.data.toList i r (by omega) hr
    have hln : (s.data.toList.set i (turn s.data[i] r)).length = s.size := by rw [List.length_set]; exact hl
    generalize s.data.toList.set i (turn s.data[i] r) = l at hput hne hln
    have hback : ∀ n, (convert 23 9 (.slice (some ⟨B, 0, none⟩) s.size cap)).run Try.prog (W.drewN n) = .ok (.string ⟨l.toArray⟩) (W.drewN n) := fun n => by
      have := run_convert_bytes_back (P := Try.prog) (W.drewN n) 23 9 5 ⟨B, 0, none⟩ cap l Try.underlying23 Try.underlying5 Try.underlying9
        (fun j hj => by
          have e : (⟨B, 0, none⟩ : Addr).add j = ⟨B, j, none⟩ := by unfold Addr.add; split <;> simp_all
          rw [e]; exact (hput j hj).1)
      rw [hln] at this; exact this
    have hs1 : s.size ≤ 281474976710656 := by omega
    have hs2 : (⟨l.toArray⟩ : ByteArray).size ≤ 281474976710656 := by
      show l.toArray.size ≤ _
      rw [List.size_toArray, hln]; omega
    have hneb : (wsum 0 s.data.toList != wsum 0 l) = true := by simpa using hne
    have HS2 : Hid _ := hs2
    clear hne hput hrow hbel c0 f0 hln hs2
    go_wp2_with fail
    go_quiet ((go_at_call 5; exact Qd.quiet (add_any 0 _ _ (by omega) (by omega) (by first | exact hs1 | exact HS2.out))))
    go_wp2_with fail
    go_ret
    refine ⟨?_, ?_⟩
    · first | rfl | simp_all
    · rw [HB.out]; exact bq hb2 ⟨_, rfl⟩
end Go.Proofs.Ytendklfngpoljab.sone
