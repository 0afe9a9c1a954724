/- One element more behind a row of the call's own: another slice that has it already has it still. -/
import Derived.Test.YtiddpkppfpdfhaaRwsAt
import Derived.Test.YtiddpkppfpdfhaaRwsCut
namespace Go.Proofs.Ytiddpkppfpdfhaa.rwat
open Go.ChangeShapes Go.WideShapes Go.ChangeAt Go.RowKit
open Go.Proofs.Ytiddpkppfpdfhaa.boxes Go.Proofs.Ytiddpkppfpdfhaa.rws Go.Proofs.Ytiddpkppfpdfhaa.rwr Go.Proofs.Ytiddpkppfpdfhaa.rwc

theorem run_at2 {α : Type} (K : Knd α) (w : World) (ty : TypeId) (B : Nat) (v : Value) (l : List α) (hown : Own K w B v l) (b c : Nat) (y : α) (t : TypeId) (hb : Blk w b (K.enc y) t)
    (b0 : l.length + 1 ≤ 1000000000000) (b1 : (l.length + 1) * K.by_ ≤ 140737488355328) (b4 : B ≤ w.heap.size) :
    ∃ v' w', (Builtin.append_ #[K.s, K.s] ty #[v, .slice (some ⟨b, 0, none⟩) 1 c]).run Try.prog w = .ok v' w' ∧ Own K w' B v' (l ++ [y]) ∧ w.grownBy w' v.ownBlock ∧ (v'.ownBlock = v.ownBlock ∨ v'.ownBlock = some w.heap.size) ∧
      (∀ u, Own K w B u (l ++ [y]) → Own K w' B u (l ++ [y])) ∧ Own K w' B v l := by
  obtain ⟨v', w', hrun, h1, h2, hw⟩ := run_at K w ty B v l hown b c y t hb b0 b1 b4
  refine ⟨v', w', hrun, h1, h2, hw, ?_⟩
  obtain ⟨i0, hi, hz0, hz1, hz2⟩ := info_parts K.info
  have hsrc : ∀ j u, (K.cs [y])[j]? = some u → w.cell? ((⟨b, 0, none⟩ : Addr).add j) = some u := fun j u hj => by
    have e : (⟨b, 0, none⟩ : Addr).add j = ⟨b, j, none⟩ := by unfold Addr.add; split <;> simp_all
    have e2 : K.cs [y] = (K.enc y).toList := by simp [Knd.cs]
    rw [e2] at hj
    rw [e, hb.cell, ← hj]
    exact (Array.getElem?_toList).symm
  have hp := K.pos
  have h1b : 1 * K.by_ ≤ 140737488355328 := Nat.le_trans (Nat.mul_le_mul_right _ (by omega)) b1
  have key : ∀ (o : Obj), w' = w.drew.alloc o → (∀ u, Own K w B u (l ++ [y]) → Own K w' B u (l ++ [y])) ∧ Own K w' B v l := fun o e => by
    rw [e]; exact ⟨fun u hu => (hu.drew).alloc o, (hown.drew).alloc o⟩
  rcases hown.2 with ⟨rfl, hn⟩ | ⟨g, cap, cur, rfl, hB, hg', hnc, hm, hcs, htake⟩
  · have hr := run_append_nil (P := Try.prog) w K.s ty K.e i0 K.z K.hs hi hz0 ⟨b, 0, none⟩ 1 c (K.cs [y]) (by rw [cs_length, hz1]; rfl) hsrc (by omega) (by omega) (by rw [hz2]; omega)
    rw [hrun] at hr
    exact key _ (Result.ok.inj hr).2
  · by_cases hroom : l.length + 1 ≤ cap
    · obtain ⟨w'', hr, _⟩ := run_append_fits (P := Try.prog) w B K.s ty K.e i0 K.k K.hs hi hz1 g l.length cap (K.cs l) hown ⟨b, 0, none⟩ 1 c (K.cs [y]) (by rw [cs_length]; rfl) hsrc (cs_one K [y]) hroom
      rw [hrun] at hr
      have hv := (Result.ok.inj hr).1
      refine ⟨?_, ?_⟩
      rotate_left
      · rw [hv] at h1
        have := own_take h1 l.length (by simp)
        rwa [List.take_left] at this
      intro u hu
      rcases hu.2 with ⟨_, hn⟩ | ⟨g2, cap2, cur2, rfl, hB2, hg2, hnc2, hm2, hcs2, _⟩
      · simp at hn
      · by_cases hgg : g2 = g
        · subst hgg
          rw [hg'] at hg2
          simp only [Option.some.injEq, Obj.cells.injEq] at hg2
          have ec : cap2 = cap := by
            have e3 : cap * K.k = cap2 * K.k := by rw [← hcs, ← hcs2, hg2.1]
            exact (Nat.mul_right_cancel hp e3).symm
          subst ec
          rw [List.length_append, List.length_singleton, ← hv]
          exact h1
        · exact own_grown hu h2 (Or.inr (by simp [Value.ownBlock]; exact hgg))
    · have hr := run_append_grow (P := Try.prog) w K.s ty K.e i0 K.z K.hs hi hz0 ⟨g, 0, none⟩ l.length cap (K.cs l) (by rw [cs_length, hz1]) (fun j u hj => World.ownsRow.cells hown rfl j u hj) ⟨b, 0, none⟩ 1 c (K.cs [y]) (by rw [cs_length, hz1]; rfl) hsrc (by omega) (by omega) (by rw [hz2]; exact growslice_fits (by omega) b1)
      rw [hrun] at hr
      exact key _ (Result.ok.inj hr).2
end Go.Proofs.Ytiddpkppfpdfhaa.rwat
