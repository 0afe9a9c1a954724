/- Rows of structs: their cells cut, what is put behind where there is room, what is cleared behind: what slices.Delete does, whatever the kind. -/
import Derived.Test.YtbhejjpkmnldhaaRwsRd
import Derived.WalkLawsBesides
import Derived.Deep.RegionLaw
import Derived.Lib.SliceRun
namespace Go.Proofs.Ytbhejjpkmnldhaa.rwc
open Go.ChangeShapes Go.WideShapes Go.ChangeAt Go.RowKit Go.BigFrame
open Go.Proofs.Ytbhejjpkmnldhaa.boxes Go.Proofs.Ytbhejjpkmnldhaa.rwr
open Go.Proofs.Ytbhejjpkmnldhaa.rws (Own Knd cs_length cs_one cs_append)

section
variable {α : Type} {K : Knd α}
theorem cs_take (K : Knd α) : ∀ (l : List α) (i : Nat), K.cs (l.take i) = (K.cs l).take (i * K.k)
  | [], i => by simp [Knd.cs]
  | x :: r, 0 => by simp [Knd.cs]
  | x :: r, i + 1 => by
    have e1 : K.cs ((x :: r).take (i + 1)) = (K.enc x).toList ++ K.cs (r.take i) := rfl
    have e2 : K.cs (x :: r) = (K.enc x).toList ++ K.cs r := rfl
    have hl : (K.enc x).toList.length = K.k := by rw [Array.length_toList, K.hk]
    rw [e1, e2, cs_take K r i, show (i + 1) * K.k = (K.enc x).toList.length + i * K.k by rw [hl, Nat.add_mul]; omega, List.take_length_add_append]
theorem cs_drop (K : Knd α) (l : List α) (i : Nat) : K.cs (l.drop i) = (K.cs l).drop (i * K.k) := by
  by_cases h : i ≤ l.length
  · have e : K.cs l = K.cs (l.take i) ++ K.cs (l.drop i) := by rw [← cs_append, List.take_append_drop]
    have hl : (K.cs (l.take i)).length = i * K.k := by rw [cs_length, List.length_take, Nat.min_eq_left h]
    rw [e, ← hl, List.drop_left]
  · rw [List.drop_of_length_le (by omega), List.drop_of_length_le (by rw [cs_length]; exact Nat.mul_le_mul_right _ (by omega))]
    rfl
theorem own_take {w : World} {B g n cap : Nat} {l : List α} (h : Own K w B (.slice (some ⟨g, 0, none⟩) n cap) l) (i : Nat) (hi : i ≤ l.length) : Own K w B (.slice (some ⟨g, 0, none⟩) i cap) (l.take i) := by
  rcases h.2 with ⟨e, _⟩ | ⟨g', cap', cur, e, hB, hg, hnc, hm, hcs, htake⟩
  · simp at e
  · simp only [Value.slice.injEq, Option.some.injEq, Addr.mk.injEq, and_true] at e
    obtain ⟨rfl, rfl, rfl⟩ := e
    have hl : (l.take i).length = i := by rw [List.length_take]; omega
    refine ⟨by rw [cs_length], .inr ⟨g, cap, cur, by rw [hl], hB, hg, by omega, hm, hcs, ?_⟩⟩
    rw [hl, cs_take, ← htake, List.take_take, Nat.min_eq_left (Nat.mul_le_mul_right _ hi)]
/-- elements are put behind, where there is room: a step of a region that draws its order -/
theorem step_fits {ops : Array Oper} {o : Oper} {a : Act} {w : World} {C : Act → World → Prop} {Q : Exit → Act → World → Prop} {E : Prop} (K : Knd α)
    (hg : o.guard = none) (s x : Operand) (hop : o.op = Op.call { callee := Callee.builtin Builtin.append, args := #[s, x], argTypes := #[K.s, K.s] })
    (B g n cap : Nat) (l : List α) (hs : a.eval s = .slice (some ⟨g, 0, none⟩) n cap) (hown : Own K w B (.slice (some ⟨g, 0, none⟩) n cap) l) (ad : Addr) (m c : Nat) (news : List α) (hx : a.eval x = .slice (some ad) m c) (hm : news.length = m)
    (hc : ∀ j u, (K.cs news)[j]? = some u → w.cell? (ad.add j) = some u) (hroom : n + m ≤ cap)
    (hK : ∀ w', Own K w' B (.slice (some ⟨g, 0, none⟩) (n + m) cap) (l ++ news) → w.grownBy w' (some g) → C (a.put o.dst (.slice (some ⟨g, 0, none⟩) (n + m) cap)) w') :
    if Region.wanted o (yielded ops a.tmps) = true then Oper.wp Try.prog o a w C Q else E := by
  obtain ⟨i0, hi, hz0, hz1, hz2⟩ := info_parts K.info
  have hw : Region.wanted o (yielded ops a.tmps) = true := by simp [Region.wanted, hg]
  rw [if_pos hw]
  have hn : n = l.length := by
    rcases hown.2 with ⟨e, _⟩ | ⟨g', cap', cur, e, _⟩
    · simp at e
    · simp only [Value.slice.injEq] at e; exact e.2.1
  subst hn
  obtain ⟨w', hrun, h1, h2⟩ := run_append_fits (P := Try.prog) w B K.s o.type K.e i0 K.k K.hs hi hz1 g l.length cap (K.cs l) hown ad m c (K.cs news) (by rw [cs_length, hm]) hc (cs_one K news) hroom
  unfold Oper.wp
  simp [execOp, hop, resolve, invoke, builtin, hs, hx, hrun, Result.andThen]
  refine hK w' ?_ h2
  unfold Own
  rw [cs_append, List.length_append, hm]
  exact h1
/-- what stands behind a row is cleared -/
theorem run_clear (K : Knd α) (w : World) (ty : TypeId) (hv : ∀ w, (zeroValue K.e).run Try.prog w = .ok K.z w) (z : α) (hz : K.enc z = K.z.cells) (B g n cap m c : Nat) (l : List α) (h : Own K w B (.slice (some ⟨g, 0, none⟩) n cap) l) (hm : 0 < m) (hr : n + m ≤ cap) :
    ∃ w', (Builtin.clear_ #[K.s] ty #[.slice (some ⟨g, n * K.k, none⟩) m c]).run Try.prog w = .ok (.tuple #[]) w' ∧ Own K w' B (.slice (some ⟨g, 0, none⟩) n cap) l ∧ But g w w' := by
  rcases h.2 with ⟨e, _⟩ | ⟨g', cap', cur, e, hB, hg, hnc, hmx, hcs, htake⟩
  · simp at e
  · simp only [Value.slice.injEq, Option.some.injEq, Addr.mk.injEq, and_true] at e
    obtain ⟨rfl, rfl, rfl⟩ := e
    have hzl : (Builtin.zeroCells K.z.cells m).toList.length = m * K.k := by
      simp [Builtin.zeroCells, K.hz]
    have hle : l.length * K.k + m * K.k ≤ cur.size := by rw [hcs, ← Nat.add_mul]; exact Nat.mul_le_mul_right _ hr
    have h1 : ∀ v ∈ (Builtin.zeroCells K.z.cells m).toList, v.oneCell' = true := by
      intro v hv'
      have hall := K.h1 z
      rw [hz] at hall
      have hpos : 0 < K.z.cells.size := by rw [K.hz]; exact K.pos
      simp only [Builtin.zeroCells, Array.toList_map, List.mem_map] at hv'
      obtain ⟨t, _, rfl⟩ := hv'
      have hlt : t % K.z.cells.size < K.z.cells.size := Nat.mod_lt _ hpos
      rw [getElem!_pos K.z.cells (t % K.z.cells.size) hlt]
      exact Array.all_eq_true'.1 hall _ (Array.getElem_mem hlt)
    have hst := run_storeCells_at (P := Try.prog) g (l.length * K.k) K.e (Builtin.zeroCells K.z.cells m).toList 0 cur w hg (by rw [hzl]; omega) h1
    obtain ⟨G, hG⟩ : ∃ G, G = (cur.toList.take (l.length * K.k + 0) ++ (Builtin.zeroCells K.z.cells m).toList ++ cur.toList.drop (l.length * K.k + 0 + (Builtin.zeroCells K.z.cells m).toList.length)).toArray := ⟨_, rfl⟩
    rw [← hG] at hst
    refine ⟨w.setRow g G, ?_, ?_, but_setRow w g _⟩
    · obtain ⟨m', rfl⟩ : ∃ m', m = m' + 1 := ⟨m - 1, by omega⟩
      simp [Builtin.clear_, run_underlying K.hs, hv, hst]
    · refine ⟨by rw [cs_length], .inr ⟨g, cap, G, rfl, hB, setRow_heap w g cur _ K.e _ hg, hnc, hmx, ?_, ?_⟩⟩
      · rw [hG]
        simp only [List.size_toArray, List.length_append, List.length_take, List.length_drop, Array.length_toList, hzl]
        omega
      · rw [hG, ← htake, Nat.add_zero]
        have e1 : (cur.toList.take (l.length * K.k)).length = l.length * K.k := by
          rw [List.length_take, Array.length_toList]
          exact Nat.min_eq_left (Nat.le_trans (Nat.le_add_right _ _) hle)
        simp only [List.append_assoc]
        exact (List.take_left' e1)
end
theorem But.of {g : Nat} {w w' : World} (h : w.grownBy w' (some g)) (hs : w'.heap.size = w.heap.size) : But g w w' := ⟨h.os, h.tape, h.output, hs, fun k hk => by
  by_cases hlt : k < w.heap.size
  · exact h.block k hlt (fun e => hk (Option.some.inj e))
  · rw [Array.getElem?_eq_none (by omega), Array.getElem?_eq_none (by omega)]⟩
end Go.Proofs.Ytbhejjpkmnldhaa.rwc
