/- What custref.TextFrame answers: the same as eth.Read. -/
import Derived.Test.YtolhmmnaohadcaaEthLives
import Derived.Test.YtolhmmnaohadcaaBoxes
import Derived.Deep.RegionWith
import Derived.Deep.DeepCutAuto
namespace Go.Proofs.Ytolhmmnaohadcaa.etht
open Go.ChangeShapes Go.WideShapes Go.ChangeAt Go.RowKit
open Go.Proofs.Ytolhmmnaohadcaa.EM Go.Proofs.Ytolhmmnaohadcaa.ethb Go.Proofs.Ytolhmmnaohadcaa.ethl Go.Proofs.Ytolhmmnaohadcaa.boxes

theorem wordAt_ref (s : ByteArray) (k : Nat) (w : World) (hs : s.size ≤ 281474976710656) (h : k + 1 < s.size) :
    Calls Try.prog 20 #[.string s, .int .i64 k] w fun e w' => e = .returned (.int .i64 (wd s k)) ∧ w' = w := by
  have e0 := bt_at s k (by omega)
  have e1 := bt_at s (k + 1) (by omega)
  have b0 := bt_bd s k
  have b1 := bt_bd s (k + 1)
  have hix : ∀ u, (Instr.index 9 (.string s) (.int .i64 (k : Int))).run Try.prog u = .ok (.int .u8 (bt s k)) u := fun u => by
    rw [run_index_string u 9 s .i64 _ Try.underlying9, dif_pos ⟨by omega, by omega⟩]
    simp only [Int.toNat_natCast, e0]
  have hix1 : ∀ u, (Instr.index 9 (.string s) (.int .i64 ((k : Int) + 1))).run Try.prog u = .ok (.int .u8 (bt s (k + 1))) u := fun u => by
    rw [run_index_string u 9 s .i64 _ Try.underlying9, dif_pos ⟨by omega, by omega⟩]
    have e : ((k : Int) + 1).toNat = k + 1 := by omega
    simp only [e, e1]
  have hlt : (k : Int) + 1 < s.size := by omega
  clear e0 e1
  go_enter Try.func20, Try.ntmps20
  go_wp2_with fail
  go_ret
  exact ⟨ret_int (by unfold wd; rfl), rfl⟩
set_option maxHeartbeats 1000000 in
theorem macAt_any (s : ByteArray) (k : Nat) (w : World) (hs : s.size ≤ 281474976710656) (h : k + 6 ≤ s.size) :
    Calls Try.prog 21 #[.string s, .int .i64 k] w fun e w' => e = .returned (.agg (mac s k)) ∧ w' = (w.alloc (.cells (mac s k) 23)).alloc (.cells (mac s k) 23) := by
  have e0 := bt_at s k (by omega)
  have hi : ∀ (u : World) (j : Nat), j < 6 → (Instr.index 9 (.string s) (.int .i64 ((k : Int) + j))).run Try.prog u = .ok (.int .u8 (bt s (k + j))) u := fun u j hj => by
    rw [run_index_string u 9 s .i64 _ Try.underlying9, dif_pos ⟨by omega, by omega⟩]
    have e : ((k : Int) + j).toNat = k + j := by omega
    simp only [e, bt_at s (k + j) (by omega)]
  have i0 : ∀ u, (Instr.index 9 (.string s) (.int .i64 (k : Int))).run Try.prog u = .ok (.int .u8 (bt s k)) u := fun u => by simpa using hi u 0 (by omega)
  have i1 : ∀ u, (Instr.index 9 (.string s) (.int .i64 ((k : Int) + 1))).run Try.prog u = .ok (.int .u8 (bt s (k + 1))) u := fun u => by simpa using hi u 1 (by omega)
  have i2 : ∀ u, (Instr.index 9 (.string s) (.int .i64 ((k : Int) + 2))).run Try.prog u = .ok (.int .u8 (bt s (k + 2))) u := fun u => by simpa using hi u 2 (by omega)
  have i3 : ∀ u, (Instr.index 9 (.string s) (.int .i64 ((k : Int) + 3))).run Try.prog u = .ok (.int .u8 (bt s (k + 3))) u := fun u => by simpa using hi u 3 (by omega)
  have i4 : ∀ u, (Instr.index 9 (.string s) (.int .i64 ((k : Int) + 4))).run Try.prog u = .ok (.int .u8 (bt s (k + 4))) u := fun u => by simpa using hi u 4 (by omega)
  have i5 : ∀ u, (Instr.index 9 (.string s) (.int .i64 ((k : Int) + 5))).run Try.prog u = .ok (.int .u8 (bt s (k + 5))) u := fun u => by simpa using hi u 5 (by omega)
  clear hi e0
  go_enter Try.func21, Try.ntmps21
  go_wp2_with fail
  refine wp_loop_rounds 7 ?_
  iterate 7 (rw [rounds_succ]; go_wp2_with fail)
  exact bodyPost_ret (v := .agg (mac s k)) (by simp [results, Try.results21, mac, go_sem]) rfl ⟨rfl, rfl⟩

theorem macAt_int (s : ByteArray) (k : Int) (w : World) (hs : s.size ≤ 281474976710656) (h0 : 0 ≤ k) (h : k + 6 ≤ s.size) :
    Calls Try.prog 21 #[.string s, .int .i64 k] w fun e w' => e = .returned (.agg (mac s k.toNat)) ∧ w' = (w.alloc (.cells (mac s k.toNat) 23)).alloc (.cells (mac s k.toNat) 23) := by
  obtain ⟨n, rfl⟩ := Int.eq_ofNat_of_zero_le h0
  exact macAt_any s n w hs (by omega)

theorem frame_one (t0 t1 t2 t3 t4 t5 f0 f1 f2 f3 f4 f5 v y : Int) (d : ByteArray) : (frame t0 t1 t2 t3 t4 t5 f0 f1 f2 f3 f4 f5 v y d).all (·.oneCell') = true := by simp [Value.oneCell']
theorem frame_info : (Try.prog.info? 25).map (·.size) = some 15 := by kernel_rfl
theorem text_short (s : ByteArray) (w : World) (h : s.size < 14) :
    Calls Try.prog 9 #[.string s] w fun e w' => e = .returned (.tuple #[.agg zeroF, .int .i64 3]) ∧ Below w.heap.size w w' := by
  have h' : decide ((14 : Int) ≤ s.size) = false := by simp; omega
  go_enter Try.func9, Try.ntmps9
  go_wp2_with fail
  exact bodyPost_ret (v := .tuple #[.agg zeroF, .int .i64 3]) (by simp [results, Try.results9, go_sem]) rfl ⟨rfl, ((Below.refl _ _).alloc (Nat.le_refl _) _).alloc (by simp) _⟩
set_option maxHeartbeats 1000000 in
theorem text_tagShort (s : ByteArray) (w : World) (hs : s.size ≤ 281474976710656) (h : 14 ≤ s.size) (h1 : s.size < 18) (ht : (wd s 12 == 33024) = true) :
    Calls Try.prog 9 #[.string s] w fun e w' => e = .returned (.tuple #[.agg zeroF, .int .i64 3]) ∧ Below w.heap.size w w' := by
  go_enter Try.func9, Try.ntmps9
  go_wp2_with fail
  refine (wordAt_ref s 12 _ hs (by omega)).mono ?_
  rintro e w1 ⟨rfl, rfl⟩
  go_wp2_with fail
  exact bodyPost_ret (v := .tuple #[.agg zeroF, .int .i64 3]) (by simp [results, Try.results9, go_sem]) rfl ⟨rfl, ((Below.refl _ _).alloc (Nat.le_refl _) _).alloc (by simp) _⟩
end Go.Proofs.Ytolhmmnaohadcaa.etht
