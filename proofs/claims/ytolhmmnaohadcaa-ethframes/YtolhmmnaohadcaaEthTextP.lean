/- What custref.TextFrame answers of a text without a tag. -/
import Derived.Test.YtolhmmnaohadcaaEthText
namespace Go.Proofs.Ytolhmmnaohadcaa.etht
open Go.ChangeShapes Go.WideShapes Go.ChangeAt Go.RowKit
open Go.Proofs.Ytolhmmnaohadcaa.EM Go.Proofs.Ytolhmmnaohadcaa.ethb Go.Proofs.Ytolhmmnaohadcaa.ethl Go.Proofs.Ytolhmmnaohadcaa.boxes

set_option maxHeartbeats 2000000 in
theorem text_plain (s : ByteArray) (w : World) (hs : s.size ≤ 281474976710656) (h : 14 ≤ s.size) (ht : (wd s 12 == 33024) = false) :
    Calls Try.prog 9 #[.string s] w fun e w' => e = .returned (.tuple #[.agg (rdf s), .int .i64 (rde s)]) ∧ Below w.heap.size w w' := by
  have h' : (14 : Int) ≤ s.size := by omega
  have hwr : IntKind.i64.wrap 14 = 14 := by decide
  have hsl : ∀ u, (Instr.slice 9 (.string s) (some (.int .i64 14)) none none).run Try.prog u = .ok (.string (s.extract 14 s.size)) u := fun u => run_slice_string_l u 9 s Try.underlying9 .i64 14 (by omega) h'
  have T0 : ¬ wd s 12 = 33024 := by simpa using ht
  have T : Hid (¬ wd s 12 = 33024) := T0
  clear T0
  obtain ⟨d, hd⟩ : ∃ d, d = s.extract 14 s.size := ⟨_, rfl⟩
  have e0 : d.size = s.size - 14 := by rw [hd, ByteArray.size_extract]; omega
  have E0 : Hid (d.size + 14 = s.size) := by show _ = _; omega
  clear e0
  rw [← hd] at hsl
  have HD : Hid (d = s.extract 14 s.size) := hd
  clear hd
  go_enter Try.func9, Try.ntmps9
  go_wp2_with fail
  refine (wordAt_ref s 12 _ hs (by omega)).mono ?_
  rintro e w1 ⟨rfl, rfl⟩
  go_upto_region 8 with fail
  go_cut [7] (fun v wx => ∃ b, v = .pointer (some ⟨b, 0, none⟩) ∧ Blk wx b (framed s (-1) (wd s 12) d) 25 ∧ Blk wx w.heap.size zeroF 25 ∧ Blk wx (w.heap.size + 1) zeroF 25 ∧ w.heap.size + 1 < b ∧ Below w.heap.size w wx)
  case first =>
    go_region_with (first | (go_at_call 21; refine (macAt_int s _ _ hs (by omega) (by omega)).mono ?_; rintro e w3 ⟨rfl, rfl⟩; simp only [mac, Int.reduceToNat, Nat.reduceAdd]) | (go_at_call 20; refine (wordAt_ref s 12 _ hs (by omega)).mono ?_; rintro e w3 ⟨rfl, rfl⟩))
    all_goals go_wp2_with fail
    all_goals go_meet
    all_goals exact ⟨_, rfl, (by repeat (first | (refine Blk.newAt _ _ _ ?_; simp; done) | refine Blk.drew ?_ | refine Blk.alloc ?_ _)), (by repeat (first | (refine Blk.newAt _ _ _ ?_; simp; done) | refine Blk.drew ?_ | refine Blk.alloc ?_ _)), (by repeat (first | (refine Blk.newAt _ _ _ ?_; simp; done) | refine Blk.drew ?_ | refine Blk.alloc ?_ _)), by omega, (by repeat (first | exact Below.refl _ _ | refine Below.drew ?_ | refine Below.alloc ?_ (by simp <;> omega) _))⟩
  case rest =>
    obtain ⟨b, rfl, F, Z, N, hlt, hb⟩ := hcut
    clear hsl hwr
    have cf := F.cell
    have ff := F.free
    have g0 : ¬ s.size < 14 := by omega
    by_cases hl : 65535 < d.size
    · have hl' : 65549 < s.size := by have := E0.out; omega
      have e1 : Hid (rde s = 2) := by show _ = _; simp [rde, g0, T.out, hl']
      go_wp2_with (first | (refine blk_load _ rfl 25 _ rfl _ rfl _ _ (by assumption) _ Try.underlying25 rfl 15 frame_info (by rfl) ?_) | (refine blk_store _ rfl 25 _ _ rfl _ _ rfl rfl _ _ (by assumption) 15 frame_info (by rfl) (by rfl) (by exact frame_one _ _ _ _ _ _ _ _ _ _ _ _ _ _ _) ?_; intro W2 k2 p2))
      refine blk_ret2 rfl rfl _ _ _ rfl k2 _ Try.underlying25 rfl 15 frame_info rfl ⟨ret_frame (by simp [rdf, e1.out]) e1.out.symm, p2.below hb (Nat.le_refl _)⟩
    · have hl' : ¬ 65549 < s.size := by have := E0.out; omega
      have e1 : Hid (rde s = 0) := by show _ = _; simp [rde, g0, T.out, hl']
      go_wp2_with (first | (refine blk_load _ rfl 25 _ rfl _ rfl _ _ (by assumption) _ Try.underlying25 rfl 15 frame_info (by rfl) ?_) | (refine blk_store _ rfl 25 _ _ rfl _ _ rfl rfl _ _ (by assumption) 15 frame_info (by rfl) (by rfl) (by exact frame_one _ _ _ _ _ _ _ _ _ _ _ _ _ _ _) ?_; intro W2 k2 p2))
      refine blk_ret2 rfl rfl _ _ _ rfl k2 _ Try.underlying25 rfl 15 frame_info rfl ⟨ret_frame (by simp [rdf, e1.out, T.out, HD.out]) e1.out.symm, p2.below hb (Nat.le_refl _)⟩
end Go.Proofs.Ytolhmmnaohadcaa.etht
