/- What eth.Read answers, and that it changes nothing that was there. -/
import Derived.Test.YtolhmmnaohadcaaEthBase
import Derived.WalkKit
import Derived.ProofKit
import Derived.OpenShut
import Derived.ShutString
import Derived.WalkSpells
import Derived.WalkLawsBesides
import Derived.Deep.QuietTactic
import Derived.BigQuiet
import Derived.LoopN
import Derived.Below
namespace Go.Proofs.Ytolhmmnaohadcaa.ethr
open Go.ChangeShapes Go.WideShapes Go.ChangeAt Go.RowKit
open Go.Proofs.Ytolhmmnaohadcaa.EM Go.Proofs.Ytolhmmnaohadcaa.ethb

theorem wordAt_any (s : ByteArray) (k : Nat) (w : World) (hs : s.size ≤ 281474976710656) (h : k + 1 < s.size) :
    Calls Try.prog 19 #[.string s, .int .i64 k] w fun e w' => e = .returned (.int .i64 (wd s k)) ∧ ∃ m, w' = w.drewN m := by
  have hk0 : (k : Int) < s.size := by omega
  have hk1 : (k : Int) + 1 < s.size := by omega
  have e0 := bt_at s k (by omega)
  have e1 := bt_at s (k + 1) (by omega)
  have b0 := bt_bd s k
  have b1 := bt_bd s (k + 1)
  have hix : ∀ u, (Instr.index 9 (.string s) (.int .i64 (k : Int))).run Try.prog u = .ok (.int .u8 (bt s k)) u := fun u => by
    rw [run_index_string u 9 s .i64 _ Try.underlying9, dif_pos ⟨by omega, by omega⟩]
    simp only [Int.toNat_natCast, e0]
  have hix1 : ∀ u, (Instr.index 9 (.string s) (.int .i64 ((k : Int) + 1))).run Try.prog u = .ok (.int .u8 (bt s (k + 1))) u := fun u => by
    rw [run_index_string u 9 s .i64 _ Try.underlying9, dif_pos ⟨by omega, by omega⟩]
    have e : ((k : Int) + 1).toNat = k + 1 := by omega
    simp only [e, e1]
  have E : Hid (bits .or .i64 (bt s k * 256) (bt s (k + 1)) = wd s k) := or_word _ _ b0.1 b0.2 b1.1 b1.2
  clear e0 e1
  go_enter Try.func19, Try.ntmps19
  go_wp2_with fail
  go_quiet (fail)
  go_wp2_with fail
  go_ret
  exact ⟨ret_int E.out, _, rfl⟩

set_option maxHeartbeats 1000000 in
theorem macAt_any (s : ByteArray) (k : Nat) (w : World) (hs : s.size ≤ 281474976710656) (h : k + 6 ≤ s.size) :
    Calls Try.prog 18 #[.string s, .int .i64 k] w fun e w' => e = .returned (.agg (mac s k)) ∧ w' = (w.alloc (.cells (mac s k) 23)).alloc (.cells (mac s k) 23) := by
  have e0 := bt_at s k (by omega)
  have hi : ∀ (u : World) (j : Nat), j < 6 → (Instr.index 9 (.string s) (.int .i64 ((k : Int) + j))).run Try.prog u = .ok (.int .u8 (bt s (k + j))) u := fun u j hj => by
    rw [run_index_string u 9 s .i64 _ Try.underlying9, dif_pos ⟨by omega, by omega⟩]
    have e : ((k : Int) + j).toNat = k + j := by omega
    simp only [e, bt_at s (k + j) (by omega)]
  have i0 : ∀ u, (Instr.index 9 (.string s) (.int .i64 (k : Int))).run Try.prog u = .ok (.int .u8 (bt s k)) u := fun u => by simpa using hi u 0 (by omega)
  have i1 : ∀ u, (Instr.index 9 (.string s) (.int .i64 ((k : Int) + 1))).run Try.prog u = .ok (.int .u8 (bt s (k + 1))) u := fun u => by simpa using hi u 1 (by omega)
  have i2 : ∀ u, (Instr.index 9 (.string s) (.int .i64 ((k : Int) + 2))).run Try.prog u = .ok (.int .u8 (bt s (k + 2))) u := fun u => by simpa using hi u 2 (by omega)
  have i3 : ∀ u, (Instr.index 9 (.string s) (.int .i64 ((k : Int) + 3))).run Try.prog u = .ok (.int .u8 (bt s (k + 3))) u := fun u => by simpa using hi u 3 (by omega)
  have i4 : ∀ u, (Instr.index 9 (.string s) (.int .i64 ((k : Int) + 4))).run Try.prog u = .ok (.int .u8 (bt s (k + 4))) u := fun u => by simpa using hi u 4 (by omega)
  have i5 : ∀ u, (Instr.index 9 (.string s) (.int .i64 ((k : Int) + 5))).run Try.prog u = .ok (.int .u8 (bt s (k + 5))) u := fun u => by simpa using hi u 5 (by omega)
  clear hi e0
  go_enter Try.func18, Try.ntmps18
  go_wp2_with fail
  refine wp_loop_rounds 7 ?_
  iterate 7 (rw [rounds_succ]; go_wp2_with fail)
  exact bodyPost_ret (v := .agg (mac s k)) (by simp [results, Try.results18, mac, go_sem]) rfl ⟨rfl, rfl⟩

theorem read_short (s : ByteArray) (w : World) (h : s.size < 14) :
    Calls Try.prog 8 #[.string s] w fun e w' => e = .returned (.tuple #[.agg zeroF, .int .i64 3]) ∧ Below w.heap.size w w' := by
  go_enter Try.func8, Try.ntmps8
  go_wp2_with fail
  exact bodyPost_ret (v := .tuple #[.agg zeroF, .int .i64 3]) (by simp [results, Try.results8, go_sem]) rfl ⟨rfl, (Below.refl _ _).alloc (Nat.le_refl _) _⟩
set_option maxHeartbeats 2000000 in
theorem read_tagShort (s : ByteArray) (w : World) (hs : s.size ≤ 281474976710656) (h : 14 ≤ s.size) (h1 : s.size < 18) (ht : (wd s 12 == 33024) = true) :
    Calls Try.prog 8 #[.string s] w fun e w' => e = .returned (.tuple #[.agg (zeroF), .int .i64 3]) ∧ Below w.heap.size w w' := by
  have hd1 : ∀ (u : World) (n : Nat) (a : Addr) (v : Value), (u.drewN n).setCell a v = (u.setCell a v).drewN n := fun _ _ _ _ => rfl
  go_enter Try.func8, Try.ntmps8
  go_wp2_with fail
  refine (macAt_any s 0 _ hs (by omega)).mono ?_
  rintro e w1 ⟨rfl, rfl⟩
  unfold mac
  go_wp2_with fail
  refine (macAt_any s 6 _ hs (by omega)).mono ?_
  rintro e w1 ⟨rfl, rfl⟩
  unfold mac
  go_wp2_with fail
  refine (wordAt_any s 12 _ hs (by omega)).mono ?_
  rintro e w1 ⟨rfl, m0, rfl⟩
  go_wp2_with fail
  exact bodyPost_ret (v := .tuple #[.agg (zeroF), .int .i64 3]) (by simp [results, Try.results8, go_sem]) rfl ⟨rfl, by repeat (first | exact Below.refl _ _ | refine bdrewN ?_ _ | refine Below.alloc ?_ (by simp <;> omega) _)⟩
set_option maxHeartbeats 2000000 in
theorem read_tagForm (s : ByteArray) (w : World) (hs : s.size ≤ 281474976710656) (h : 18 ≤ s.size) (hv : 4095 < wd s 14) (ht : (wd s 12 == 33024) = true) :
    Calls Try.prog 8 #[.string s] w fun e w' => e = .returned (.tuple #[.agg (zeroF), .int .i64 4]) ∧ Below w.heap.size w w' := by
  have hd1 : ∀ (u : World) (n : Nat) (a : Addr) (v : Value), (u.drewN n).setCell a v = (u.setCell a v).drewN n := fun _ _ _ _ => rfl
  go_enter Try.func8, Try.ntmps8
  go_wp2_with fail
  refine (macAt_any s 0 _ hs (by omega)).mono ?_
  rintro e w1 ⟨rfl, rfl⟩
  unfold mac
  go_wp2_with fail
  refine (macAt_any s 6 _ hs (by omega)).mono ?_
  rintro e w1 ⟨rfl, rfl⟩
  unfold mac
  go_wp2_with fail
  refine (wordAt_any s 12 _ hs (by omega)).mono ?_
  rintro e w1 ⟨rfl, m0, rfl⟩
  go_wp2_with fail
  refine (wordAt_any s 14 _ hs (by omega)).mono ?_
  rintro e w1 ⟨rfl, m1, rfl⟩
  go_wp2_with fail
  exact bodyPost_ret (v := .tuple #[.agg (zeroF), .int .i64 4]) (by simp [results, Try.results8, go_sem]) rfl ⟨rfl, by repeat (first | exact Below.refl _ _ | refine bdrewN ?_ _ | refine Below.alloc ?_ (by simp <;> omega) _)⟩
set_option maxHeartbeats 2000000 in
theorem read_tagLarge (s : ByteArray) (w : World) (hs : s.size ≤ 281474976710656) (h : 65553 < s.size) (hv : wd s 14 ≤ 4095) (ht : (wd s 12 == 33024) = true) :
    Calls Try.prog 8 #[.string s] w fun e w' => e = .returned (.tuple #[.agg (zeroF), .int .i64 2]) ∧ Below w.heap.size w w' := by
  have hd1 : ∀ (u : World) (n : Nat) (a : Addr) (v : Value), (u.drewN n).setCell a v = (u.setCell a v).drewN n := fun _ _ _ _ => rfl
  go_enter Try.func8, Try.ntmps8
  go_wp2_with fail
  refine (macAt_any s 0 _ hs (by omega)).mono ?_
  rintro e w1 ⟨rfl, rfl⟩
  unfold mac
  go_wp2_with fail
  refine (macAt_any s 6 _ hs (by omega)).mono ?_
  rintro e w1 ⟨rfl, rfl⟩
  unfold mac
  go_wp2_with fail
  refine (wordAt_any s 12 _ hs (by omega)).mono ?_
  rintro e w1 ⟨rfl, m0, rfl⟩
  go_wp2_with fail
  refine (wordAt_any s 14 _ hs (by omega)).mono ?_
  rintro e w1 ⟨rfl, m1, rfl⟩
  go_wp2_with fail
  refine (wordAt_any s 16 _ hs (by omega)).mono ?_
  rintro e w1 ⟨rfl, m2, rfl⟩
  go_wp2_with fail
  exact bodyPost_ret (v := .tuple #[.agg (zeroF), .int .i64 2]) (by simp [results, Try.results8, go_sem]) rfl ⟨rfl, by repeat (first | exact Below.refl _ _ | refine bdrewN ?_ _ | refine Below.alloc ?_ (by simp <;> omega) _)⟩
set_option maxHeartbeats 2000000 in
theorem read_tag (s : ByteArray) (w : World) (hs : s.size ≤ 281474976710656) (h : 18 ≤ s.size) (hl : s.size ≤ 65553) (hv : wd s 14 ≤ 4095) (ht : (wd s 12 == 33024) = true) :
    Calls Try.prog 8 #[.string s] w fun e w' => e = .returned (.tuple #[.agg (framed s (wd s 14) (wd s 16) (s.extract 18 s.size)), .int .i64 0]) ∧ Below w.heap.size w w' := by
  have hd1 : ∀ (u : World) (n : Nat) (a : Addr) (v : Value), (u.drewN n).setCell a v = (u.setCell a v).drewN n := fun _ _ _ _ => rfl
  go_enter Try.func8, Try.ntmps8
  go_wp2_with fail
  refine (macAt_any s 0 _ hs (by omega)).mono ?_
  rintro e w1 ⟨rfl, rfl⟩
  unfold mac
  go_wp2_with fail
  refine (macAt_any s 6 _ hs (by omega)).mono ?_
  rintro e w1 ⟨rfl, rfl⟩
  unfold mac
  go_wp2_with fail
  refine (wordAt_any s 12 _ hs (by omega)).mono ?_
  rintro e w1 ⟨rfl, m0, rfl⟩
  go_wp2_with fail
  refine (wordAt_any s 14 _ hs (by omega)).mono ?_
  rintro e w1 ⟨rfl, m1, rfl⟩
  go_wp2_with fail
  refine (wordAt_any s 16 _ hs (by omega)).mono ?_
  rintro e w1 ⟨rfl, m2, rfl⟩
  go_wp2_with fail
  exact bodyPost_ret (v := .tuple #[.agg (framed s (wd s 14) (wd s 16) (s.extract 18 s.size)), .int .i64 0]) (by simp [results, Try.results8, go_sem]) rfl ⟨rfl, by repeat (first | exact Below.refl _ _ | refine bdrewN ?_ _ | refine Below.alloc ?_ (by simp <;> omega) _)⟩
set_option maxHeartbeats 2000000 in
theorem read_large (s : ByteArray) (w : World) (hs : s.size ≤ 281474976710656) (h : 65549 < s.size) (ht : (wd s 12 == 33024) = false) :
    Calls Try.prog 8 #[.string s] w fun e w' => e = .returned (.tuple #[.agg (zeroF), .int .i64 2]) ∧ Below w.heap.size w w' := by
  have hd1 : ∀ (u : World) (n : Nat) (a : Addr) (v : Value), (u.drewN n).setCell a v = (u.setCell a v).drewN n := fun _ _ _ _ => rfl
  go_enter Try.func8, Try.ntmps8
  go_wp2_with fail
  refine (macAt_any s 0 _ hs (by omega)).mono ?_
  rintro e w1 ⟨rfl, rfl⟩
  unfold mac
  go_wp2_with fail
  refine (macAt_any s 6 _ hs (by omega)).mono ?_
  rintro e w1 ⟨rfl, rfl⟩
  unfold mac
  go_wp2_with fail
  refine (wordAt_any s 12 _ hs (by omega)).mono ?_
  rintro e w1 ⟨rfl, m0, rfl⟩
  go_wp2_with fail
  refine (wordAt_any s 12 _ hs (by omega)).mono ?_
  rintro e w1 ⟨rfl, m1, rfl⟩
  go_wp2_with fail
  exact bodyPost_ret (v := .tuple #[.agg (zeroF), .int .i64 2]) (by simp [results, Try.results8, go_sem]) rfl ⟨rfl, by repeat (first | exact Below.refl _ _ | refine bdrewN ?_ _ | refine Below.alloc ?_ (by simp <;> omega) _)⟩
set_option maxHeartbeats 2000000 in
theorem read_plain (s : ByteArray) (w : World) (hs : s.size ≤ 281474976710656) (h : 14 ≤ s.size) (hl : s.size ≤ 65549) (ht : (wd s 12 == 33024) = false) :
    Calls Try.prog 8 #[.string s] w fun e w' => e = .returned (.tuple #[.agg (framed s (-1) (wd s 12) (s.extract 14 s.size)), .int .i64 0]) ∧ Below w.heap.size w w' := by
  have hd1 : ∀ (u : World) (n : Nat) (a : Addr) (v : Value), (u.drewN n).setCell a v = (u.setCell a v).drewN n := fun _ _ _ _ => rfl
  go_enter Try.func8, Try.ntmps8
  go_wp2_with fail
  refine (macAt_any s 0 _ hs (by omega)).mono ?_
  rintro e w1 ⟨rfl, rfl⟩
  unfold mac
  go_wp2_with fail
  refine (macAt_any s 6 _ hs (by omega)).mono ?_
  rintro e w1 ⟨rfl, rfl⟩
  unfold mac
  go_wp2_with fail
  refine (wordAt_any s 12 _ hs (by omega)).mono ?_
  rintro e w1 ⟨rfl, m0, rfl⟩
  go_wp2_with fail
  refine (wordAt_any s 12 _ hs (by omega)).mono ?_
  rintro e w1 ⟨rfl, m1, rfl⟩
  go_wp2_with fail
  exact bodyPost_ret (v := .tuple #[.agg (framed s (-1) (wd s 12) (s.extract 14 s.size)), .int .i64 0]) (by simp [results, Try.results8, go_sem]) rfl ⟨rfl, by repeat (first | exact Below.refl _ _ | refine bdrewN ?_ _ | refine Below.alloc ?_ (by simp <;> omega) _)⟩
theorem read_any (s : ByteArray) (w : World) (hs : s.size ≤ 281474976710656) :
    Calls Try.prog 8 #[.string s] w fun e w' => e = .returned (.tuple #[.agg (rdf s), .int .i64 (rde s)]) ∧ Below w.heap.size w w' := by
  by_cases h : s.size < 14
  · refine (read_short s w h).mono ?_
    rintro e w' ⟨rfl, hb⟩
    have e1 : rde s = 3 := by simp [rde, h]
    exact ⟨ret_frame (by simp [rdf, e1]) e1.symm, hb⟩
  by_cases ht : wd s 12 = 33024
  · by_cases h1 : s.size < 18
    · refine (read_tagShort s w hs (by omega) h1 (by simpa using ht)).mono ?_
      rintro e w' ⟨rfl, hb⟩
      have e1 : rde s = 3 := by simp [rde, h, ht, h1]
      exact ⟨ret_frame (by simp [rdf, e1]) e1.symm, hb⟩
    by_cases hv : 4095 < wd s 14
    · refine (read_tagForm s w hs (by omega) hv (by simpa using ht)).mono ?_
      rintro e w' ⟨rfl, hb⟩
      have e1 : rde s = 4 := by simp [rde, h, ht, h1, hv]
      exact ⟨ret_frame (by simp [rdf, e1]) e1.symm, hb⟩
    by_cases hl : 65553 < s.size
    · refine (read_tagLarge s w hs hl (by omega) (by simpa using ht)).mono ?_
      rintro e w' ⟨rfl, hb⟩
      have e1 : rde s = 2 := by simp [rde, h, ht, h1, hv, hl]
      exact ⟨ret_frame (by simp [rdf, e1]) e1.symm, hb⟩
    · refine (read_tag s w hs (by omega) (by omega) (by omega) (by simpa using ht)).mono ?_
      rintro e w' ⟨rfl, hb⟩
      have e1 : rde s = 0 := by simp [rde, h, ht, h1, hv, hl]
      exact ⟨ret_frame (by simp [rdf, e1, ht]) e1.symm, hb⟩
  · by_cases hl : 65549 < s.size
    · refine (read_large s w hs hl (by simpa using ht)).mono ?_
      rintro e w' ⟨rfl, hb⟩
      have e1 : rde s = 2 := by simp [rde, h, ht, hl]
      exact ⟨ret_frame (by simp [rdf, e1]) e1.symm, hb⟩
    · refine (read_plain s w hs (by omega) (by omega) (by simpa using ht)).mono ?_
      rintro e w' ⟨rfl, hb⟩
      have e1 : rde s = 0 := by simp [rde, h, ht, hl]
      exact ⟨ret_frame (by simp [rdf, e1, ht]) e1.symm, hb⟩
end Go.Proofs.Ytolhmmnaohadcaa.ethr
