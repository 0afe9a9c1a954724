/- What slices.Delete of one rule answers: the row without it, in place. -/
import Derived.Test.YtfcnabpbpbhacaaRuBase
import Derived.Test.YtfcnabpbpbhacaaRwsCut
namespace Go.Proofs.Ytfcnabpbpbhacaa.ru
open Go.ChangeShapes Go.WideShapes Go.ChangeAt Go.RowKit Go.BigFrame
open Go.Proofs.Ytfcnabpbpbhacaa Go.Proofs.Ytfcnabpbpbhacaa.pm Go.Proofs.Ytfcnabpbpbhacaa.pf Go.Proofs.Ytfcnabpbpbhacaa.boxes Go.Proofs.Ytfcnabpbpbhacaa.rwr Go.Proofs.Ytfcnabpbpbhacaa.rwc
open Go.Proofs.Ytfcnabpbpbhacaa.rws (Own Knd cs_length cs_one cs_append)

set_option maxHeartbeats 4000000 in
set_option maxRecDepth 100000 in
theorem del_any (X : List Ru) (B g cap i : Nat) (w : World) (h : Own UK w B (.slice (some ⟨g, 0, none⟩) X.length cap) X) (hi : i < X.length) :
    Calls Try.prog 18 #[.slice (some ⟨g, 0, none⟩) X.length cap, .int .i64 (i : Int), .int .i64 ((i : Int) + 1)] w fun e w' =>
      e = .returned (.slice (some ⟨g, 0, none⟩) (X.length - 1) cap) ∧ Own UK w' B (.slice (some ⟨g, 0, none⟩) (X.length - 1) cap) (X.take i ++ X.drop (i + 1)) ∧ w.grownBy w' (some g) := by
  obtain ⟨g', cap', e, hB, hg, hnc, hm, _⟩ := h.form (by omega)
  simp only [Value.slice.injEq, Option.some.injEq, Addr.mk.injEq, and_true, true_and] at e
  obtain ⟨rfl, rfl⟩ := e
  have hm' : cap ≤ 9223372036854775807 := by unfold maxLen at hm; omega
  have ht := own_take h i (by omega)
  obtain ⟨n, hn⟩ : ∃ n, X.length = n + 1 := ⟨X.length - 1, by omega⟩
  have hln : (X.drop (i + 1)).length = n - i := by rw [List.length_drop, hn]; omega
  obtain ⟨A, hA, hsrc⟩ : ∃ A : Addr, (if cap = i + 1 then some (⟨g, 0, none⟩ : Addr) else some ⟨g, (i + 1) * 10, none⟩) = some A ∧ Hid (∀ j u, (UK.cs (X.drop (i + 1)))[j]? = some u → w.drew.cell? (A.add j) = some u) := by
    by_cases hc : cap = i + 1
    · refine ⟨⟨g, 0, none⟩, by simp [hc], fun j u hu => ?_⟩
      have h0 : X.drop (i + 1) = [] := List.eq_nil_of_length_eq_zero (by omega)
      rw [h0] at hu
      simp [Knd.cs] at hu
    · refine ⟨⟨g, (i + 1) * 10, none⟩, by simp [hc], fun j u hu => ?_⟩
      rw [cs_drop, List.getElem?_drop] at hu
      have hadd : (⟨g, (i + 1) * 10, none⟩ : Addr).add j = ⟨g, (i + 1) * 10 + j, none⟩ := by unfold Addr.add; split <;> simp_all
      rw [hadd]
      have hlt : (i + 1) * 10 + j < X.length * 10 := by
        have := (List.getElem?_eq_some_iff.1 hu).1
        rw [cs_length] at this
        exact this
      exact (World.ownsRow.cellAt h _ hlt).trans hu
  have hroom : i + (n - i) ≤ cap := by omega
  have hsum : i + (n - i) = n := by omega
  have hz : ∀ w, (zeroValue UK.e).run Try.prog w = .ok UK.z w := Try.zeroValue34
  have hi1 : (i : Int) + 1 ≤ (n : Int) + 1 := by omega
  have hi2 : (0 : Int) ≤ (i : Int) + 1 := by omega
  have hni : n + 1 - (i + 1) = n - i := by omega
  have hii : ¬ (i : Int) = (i : Int) + 1 := by omega
  have hin : i ≤ n := by omega
  have hic : i ≤ cap := by omega
  have hnc' : n + 1 ≤ cap := by omega
  have hcn : ¬ cap = n := by omega
  have hnn : n + 1 - n = 1 := by omega
  have hi1c : i + 1 ≤ cap := by omega
  have HT : Hid (Own UK w B (.slice (some ⟨g, 0, none⟩) i cap) (X.take i)) := ht
  have HX : Hid (Own UK w B (.slice (some ⟨g, 0, none⟩) X.length cap) X) := h
  clear h ht hnc
  rw [hn, Nat.add_sub_cancel]
  go_enter Try.func18, Try.ntmps18
  go_wp2_with fail
  go_region_law (refine step_fits UK rfl (.tmp 22) (.tmp 25) rfl B g i cap (X.take i) (by simp [Act.eval, Act.put]) HT.out.drew A (n - i) (cap - (i + 1)) (X.drop (i + 1)) (by simp [Act.eval, Act.put]) hln hsrc.out hroom ?_; intro w1 o1 g1)
  rw [hsum] at o1
  obtain ⟨w2, hrun, o2, u2⟩ := run_clear UK w1 0 hz ru0 rfl B g n cap 1 (cap - n) _ o1 (by omega) (by omega)
  have hr2 : ∀ ty, (Builtin.clear_ #[22] ty #[.slice (some ⟨g, n * 10, none⟩) 1 (cap - n)]).run Try.prog w1 = .ok (.tuple #[]) w2 := fun _ => hrun
  have hn0 : (0 : Int) ≤ (n : Int) := by omega
  have g2 : w.grownBy w2 (some g) := by
    have e1 : w.drew.heap = w.heap := rfl
    refine ⟨u2.os.trans g1.os, u2.tape.trans g1.tape, u2.output.trans g1.output, by rw [u2.size]; exact g1.size, fun k hk hne => ?_⟩
    rw [u2.block k (fun e => hne (by rw [e]))]
    exact g1.block k hk hne
  clear hrun u2 g1
  go_wp2_with fail
  go_ret
  exact ⟨rfl, o2, g2⟩
end Go.Proofs.Ytfcnabpbpbhacaa.ru
