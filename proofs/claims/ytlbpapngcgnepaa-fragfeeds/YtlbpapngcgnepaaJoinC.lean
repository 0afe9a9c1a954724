/- PoolPut, PoolHead, joined. -/
import Derived.Test.YtlbpapngcgnepaaFragFor
/- A pool one of whose heaps has other parts. -/
namespace Go.Proofs.Ytlbpapngcgnepaa.pp
open Go.ChangeShapes Go.WideShapes Go.ChangeAt Go.RowKit
open Go.Proofs.Ytlbpapngcgnepaa.boxes Go.Proofs.Ytlbpapngcgnepaa.frp Go.Proofs.Ytlbpapngcgnepaa.pl Go.Proofs.Ytlbpapngcgnepaa.frh
open Go.Proofs.Ytlbpapngcgnepaa.rws (Own Knd cs_length)

theorem cs_cell {α : Type} (K : Knd α) (x y : α) (c : Nat) (u : Value) (hc : c < K.k) (hy : (K.enc y).toList = (K.enc x).toList.set c u) : ∀ (l : List α) (j : Nat), l[j]? = some x → K.cs (l.set j y) = (K.cs l).set (j * K.k + c) u
  | [], j, h => by simp at h
  | a :: r, 0, h => by
    simp at h; subst h
    have e1 : K.cs ((a :: r).set 0 y) = (K.enc y).toList ++ K.cs r := rfl
    have e2 : K.cs (a :: r) = (K.enc a).toList ++ K.cs r := rfl
    rw [e1, e2, hy, Nat.zero_mul, Nat.zero_add, List.set_append_left _ _ (by rw [Array.length_toList, K.hk]; exact hc)]
  | a :: r, j + 1, h => by
    have e1 : K.cs ((a :: r).set (j + 1) y) = (K.enc a).toList ++ K.cs (r.set j y) := rfl
    have e2 : K.cs (a :: r) = (K.enc a).toList ++ K.cs r := rfl
    have hl : (K.enc a).toList.length = K.k := by rw [Array.length_toList, K.hk]
    rw [e1, e2, cs_cell K x y c u hc hy r j (by simpa using h), List.set_append_right _ _ (by rw [hl, Nat.add_mul]; omega), hl]
    congr 2
    rw [Nat.add_mul]; omega
theorem apart_at {Q : List Hq} (h : Q.Pairwise Apart) {i j : Nat} {a b : Hq} (hi : Q[i]? = some a) (hj : Q[j]? = some b) (hne : i ≠ j) : a.v.sl.ownBlock = none ∨ a.v.sl.ownBlock ≠ b.v.sl.ownBlock := by
  obtain ⟨li, ei⟩ := List.getElem?_eq_some_iff.1 hi
  obtain ⟨lj, ej⟩ := List.getElem?_eq_some_iff.1 hj
  have hp := List.pairwise_iff_getElem.1 h
  rcases Nat.lt_or_gt_of_ne hne with hlt | hlt
  · have := hp i j li lj hlt
    rw [ei, ej] at this
    exact this
  · have := hp j i lj li hlt
    rw [ei, ej] at this
    unfold Apart at this
    cases ha : a.v.sl.ownBlock with
    | none => exact Or.inl rfl
    | some k =>
      rcases this with hb | hb
      · rw [hb]; exact Or.inr (by simp)
      · rw [ha] at hb; exact Or.inr (fun e => hb e.symm)
/-- the heap at i gets other parts -/
theorem Pool.put {w w6 : World} {B g cap n i : Nat} {Q : List Hq} {q : Hq} {a : Option Addr} {n' c : Nat} {ps : List Pt} (h : Pool w B (.slice (some ⟨g, 0, none⟩) n cap) Q) (hn : n = Q.length) (hq : Q[i]? = some q) (gr : w.grownBy w6 q.v.sl.ownBlock)
    (o6 : Own TK w6 B (.slice a n' c) ps) (hw : (Value.slice a n' c).ownBlock = q.v.sl.ownBlock ∨ ∃ k, (Value.slice a n' c).ownBlock = some k ∧ w.heap.size ≤ k) :
    Pool (w6.setCell ⟨g, i * 8 + 7, none⟩ (.slice a n' c)) B (.slice (some ⟨g, 0, none⟩) n cap) (Q.set i ⟨⟨q.v.h, a, n', c⟩, ps⟩) := by
  subst hn
  have hX : (Q.map (·.v)).length = Q.length := by simp
  have hqm := h.part q (List.mem_of_getElem? hq)
  have hgq : some g ≠ q.v.sl.ownBlock := fun e => ne_kind h.row hqm rfl e.symm
  have r6 : Own HK w6 B (.slice (some ⟨g, 0, none⟩) Q.length cap) (Q.map (·.v)) := World.ownsRow.kept (row := q.v.sl.ownBlock) h.row gr (Or.inr hgq)
  have r6' : w6.ownsRow B HK.e HK.k (.slice (some ⟨g, 0, none⟩) Q.length cap) Q.length (HK.cs (Q.map (·.v))) := by
    have := r6
    unfold Own at this
    rwa [hX] at this
  have st := (World.ownsRow.stored r6' (i * 8 + 7) (.slice a n' c)).1
  have hcs : HK.cs ((Q.map (·.v)).set i ⟨q.v.h, a, n', c⟩) = (HK.cs (Q.map (·.v))).set (i * 8 + 7) (.slice a n' c) := cs_cell HK q.v ⟨q.v.h, a, n', c⟩ 7 (.slice a n' c) (by decide) rfl _ i (by rw [List.getElem?_map, hq]; rfl)
  have hset : ∀ (v : Value) (l : List Pt), Own TK w6 B v l → v.ownBlock ≠ some g → Own TK (w6.setCell ⟨g, i * 8 + 7, none⟩ (.slice a n' c)) B v l := fun v l ho hne => ho.setCell hne
  have hk6 : ∀ (v : Value) (l : List Pt), Own TK w6 B v l → v.ownBlock ≠ some g := fun v l ho => ne_kind r6 ho rfl
  have hat : ∀ (j : Nat) r, (Q.set i ⟨⟨q.v.h, a, n', c⟩, ps⟩)[j]? = some r → (j = i ∧ r = ⟨⟨q.v.h, a, n', c⟩, ps⟩) ∨ (j ≠ i ∧ Q[j]? = some r) := fun j r hj => by
    rw [List.getElem?_set] at hj
    by_cases hji : i = j
    · rw [if_pos hji] at hj
      split at hj
      · exact Or.inl ⟨hji.symm, (Option.some.inj hj).symm⟩
      · cases hj
    · rw [if_neg hji] at hj
      exact Or.inr ⟨fun e => hji e.symm, hj⟩
  have hold : ∀ (j : Nat) r, j ≠ i → Q[j]? = some r → Own TK w6 B r.v.sl r.ps := fun j r hji hj =>
    World.ownsRow.kept (row := q.v.sl.ownBlock) (h.part r (List.mem_of_getElem? hj)) gr (apart_at h.apart hj hq hji)
  have hnew : ∀ (j : Nat) r, j ≠ i → Q[j]? = some r → r.v.sl.ownBlock = none ∨ r.v.sl.ownBlock ≠ (Value.slice a n' c).ownBlock := fun j r hji hj => by
    rcases hw with e | ⟨k, e, hk⟩
    · rw [e]; exact apart_at h.apart hj hq hji
    · cases hr : r.v.sl.ownBlock with
      | none => exact Or.inl rfl
      | some m =>
        have := (World.ownsRow.lt (h.part r (List.mem_of_getElem? hj)) m hr).2
        rw [e]
        exact Or.inr (fun e => by have := Option.some.inj e; omega)
  refine ⟨?_, fun r hr => ?_, ?_⟩
  · unfold Own
    rw [List.map_set, hcs, List.length_set, hX]
    exact st
  · obtain ⟨j, hj⟩ := List.getElem?_of_mem hr
    rcases hat j r hj with ⟨_, rfl⟩ | ⟨hji, hj'⟩
    · exact hset _ _ o6 (hk6 _ _ o6)
    · exact hset _ _ (hold j r hji hj') (hk6 _ _ (hold j r hji hj'))
  · rw [List.pairwise_iff_getElem]
    intro x y hx hy hxy
    have ex := hat x _ (List.getElem?_eq_getElem hx)
    have ey := hat y _ (List.getElem?_eq_getElem hy)
    rcases ex with ⟨e1, e2⟩ | ⟨e1, e2⟩
    · rcases ey with ⟨e3, e4⟩ | ⟨e3, e4⟩
      · omega
      · rw [e2]
        unfold Apart
        have := hnew y _ e3 e4
        cases ha : (Value.slice a n' c).ownBlock with
        | none => exact Or.inl rfl
        | some k =>
          rw [ha] at this
          refine Or.inr (fun e => ?_)
          rcases this with hh | hh
          · rw [hh] at e; cases e
          · exact hh e.symm
    · rcases ey with ⟨e3, e4⟩ | ⟨e3, e4⟩
      · rw [e4]
        exact hnew x _ e1 e2
      · exact apart_at h.apart e2 e4 (by omega)
end Go.Proofs.Ytlbpapngcgnepaa.pp
/- A pool one of whose heaps has another head. -/
namespace Go.Proofs.Ytlbpapngcgnepaa.ph
open Go.ChangeShapes Go.WideShapes Go.ChangeAt Go.RowKit
open Go.Proofs.Ytlbpapngcgnepaa.boxes Go.Proofs.Ytlbpapngcgnepaa.frp Go.Proofs.Ytlbpapngcgnepaa.pl Go.Proofs.Ytlbpapngcgnepaa.frh Go.Proofs.Ytlbpapngcgnepaa.pp
open Go.Proofs.Ytlbpapngcgnepaa.rws (Own Knd cs_length)

/-- one cell of the heap at i, not its parts, is stored -/
theorem Pool.head {w : World} {B g cap n i : Nat} {Q : List Hq} {q : Hq} {hd : Hd} (c : Nat) (u : Value) (h : Pool w B (.slice (some ⟨g, 0, none⟩) n cap) Q) (hn : n = Q.length) (hq : Q[i]? = some q) (hc : c < 8)
    (he : (hd.cells q.v.sl).toList = (q.v.cells).toList.set c u) :
    Pool (w.setCell ⟨g, i * 8 + c, none⟩ u) B (.slice (some ⟨g, 0, none⟩) n cap) (Q.set i ⟨⟨hd, q.v.sa, q.v.sn, q.v.sc⟩, q.ps⟩) := by
  subst hn
  have hX : (Q.map (·.v)).length = Q.length := by simp
  have r' : w.ownsRow B HK.e HK.k (.slice (some ⟨g, 0, none⟩) Q.length cap) Q.length (HK.cs (Q.map (·.v))) := by
    have := h.row
    unfold Own at this
    rwa [hX] at this
  have st := (World.ownsRow.stored r' (i * 8 + c) u).1
  have hcs : HK.cs ((Q.map (·.v)).set i ⟨hd, q.v.sa, q.v.sn, q.v.sc⟩) = (HK.cs (Q.map (·.v))).set (i * 8 + c) u := cs_cell HK q.v ⟨hd, q.v.sa, q.v.sn, q.v.sc⟩ c u hc he _ i (by rw [List.getElem?_map, hq]; rfl)
  have hset : ∀ (v : Value) (l : List Pt), Own TK w B v l → Own TK (w.setCell ⟨g, i * 8 + c, none⟩ u) B v l := fun v l ho => ho.setCell (ne_kind h.row ho rfl)
  have hat : ∀ (j : Nat) r, (Q.set i ⟨⟨hd, q.v.sa, q.v.sn, q.v.sc⟩, q.ps⟩)[j]? = some r → ∃ r0, Q[j]? = some r0 ∧ r0.v.sl = r.v.sl ∧ r0.ps = r.ps := fun j r hj => by
    rw [List.getElem?_set] at hj
    by_cases hji : i = j
    · rw [if_pos hji] at hj
      split at hj
      · cases hj; exact ⟨q, by rw [← hji]; exact hq, rfl, rfl⟩
      · cases hj
    · rw [if_neg hji] at hj
      exact ⟨r, hj, rfl, rfl⟩
  refine ⟨?_, fun r hr => ?_, ?_⟩
  · unfold Own
    rw [List.map_set]
    show World.ownsRow _ B HK.e HK.k _ ((Q.map (·.v)).set i ⟨hd, q.v.sa, q.v.sn, q.v.sc⟩).length _
    rw [hcs, List.length_set, hX]
    exact st
  · obtain ⟨j, hj⟩ := List.getElem?_of_mem hr
    obtain ⟨r0, h1, h2, h3⟩ := hat j r hj
    rw [← h2, ← h3]
    exact hset _ _ (h.part r0 (List.mem_of_getElem? h1))
  · rw [List.pairwise_iff_getElem]
    intro x y hx hy hxy
    obtain ⟨a0, a1, a2, _⟩ := hat x _ (List.getElem?_eq_getElem hx)
    obtain ⟨b0, b1, b2, _⟩ := hat y _ (List.getElem?_eq_getElem hy)
    unfold Apart
    rw [← a2, ← b2]
    exact apart_at h.apart a1 b1 (by omega)
end Go.Proofs.Ytlbpapngcgnepaa.ph
