/- One element more behind a row of the call's own, of whatever kind: and where the row then lies; what else may have turned. -/
import Derived.Test.YtbhejjpkmnldhaaRwsRd
import Derived.Laws.OwnMore
import Derived.OwnWalk
import Derived.Deep.RegionLaw
import Derived.Deep.RegionWith
namespace Go.Proofs.Ytbhejjpkmnldhaa.rwat
open Go.ChangeShapes Go.WideShapes Go.ChangeAt Go.RowKit
open Go.Proofs.Ytbhejjpkmnldhaa.boxes Go.Proofs.Ytbhejjpkmnldhaa.rws Go.Proofs.Ytbhejjpkmnldhaa.rwr

theorem run_at {α : Type} (K : Knd α) (w : World) (ty : TypeId) (B : Nat) (v : Value) (l : List α) (hown : Own K w B v l) (b c : Nat) (y : α) (t : TypeId) (hb : Blk w b (K.enc y) t)
    (b0 : l.length + 1 ≤ 1000000000000) (b1 : (l.length + 1) * K.by_ ≤ 140737488355328) (b4 : B ≤ w.heap.size) :
    ∃ v' w', (Builtin.append_ #[K.s, K.s] ty #[v, .slice (some ⟨b, 0, none⟩) 1 c]).run Try.prog w = .ok v' w' ∧ Own K w' B v' (l ++ [y]) ∧ w.grownBy w' v.ownBlock ∧ (v'.ownBlock = v.ownBlock ∨ v'.ownBlock = some w.heap.size) := by
  obtain ⟨i0, hi, hz0, hz1, hz2⟩ := info_parts K.info
  have hsrc : ∀ j u, (K.cs [y])[j]? = some u → w.cell? ((⟨b, 0, none⟩ : Addr).add j) = some u := fun j u hj => by
    have e : (⟨b, 0, none⟩ : Addr).add j = ⟨b, j, none⟩ := by unfold Addr.add; split <;> simp_all
    have e2 : K.cs [y] = (K.enc y).toList := by simp [Knd.cs]
    rw [e2] at hj
    rw [e, hb.cell, ← hj]
    exact (Array.getElem?_toList).symm
  have hp := K.pos
  have h1b : 1 * K.by_ ≤ 140737488355328 := Nat.le_trans (Nat.mul_le_mul_right _ (by omega)) b1
  obtain ⟨v', w', hrun, h1, h2, _⟩ := run_append_own (P := Try.prog) w B K.s ty K.e i0 K.z K.k K.by_ K.hs hi hz0 hz1 hz2 K.hz K.pos v l.length (K.cs l) hown ⟨b, 0, none⟩ 1 c (K.cs [y]) (by rw [cs_length]; rfl) hsrc (cs_one K [y]) (by unfold maxLen; omega) b1 b4
  have hw : v'.ownBlock = v.ownBlock ∨ v'.ownBlock = some w.heap.size := by
    rcases hown.2 with ⟨rfl, hn⟩ | ⟨g, cap, cur, rfl, hB, hg', hnc, hm, hcs, htake⟩
    · have hr := run_append_nil (P := Try.prog) w K.s ty K.e i0 K.z K.hs hi hz0 ⟨b, 0, none⟩ 1 c (K.cs [y]) (by rw [cs_length, hz1]; rfl) hsrc (by omega) (by omega) (by rw [hz2]; omega)
      rw [hrun] at hr
      have hv := (Result.ok.inj hr).1
      exact Or.inr (by rw [hv]; rfl)
    · by_cases hroom : l.length + 1 ≤ cap
      · obtain ⟨w'', hr, _⟩ := run_append_fits (P := Try.prog) w B K.s ty K.e i0 K.k K.hs hi hz1 g l.length cap (K.cs l) hown ⟨b, 0, none⟩ 1 c (K.cs [y]) (by rw [cs_length]; rfl) hsrc (cs_one K [y]) hroom
        rw [hrun] at hr
        have hv := (Result.ok.inj hr).1
        exact Or.inl (by rw [hv]; rfl)
      · have hr := run_append_grow (P := Try.prog) w K.s ty K.e i0 K.z K.hs hi hz0 ⟨g, 0, none⟩ l.length cap (K.cs l) (by rw [cs_length, hz1]) (fun j u hj => World.ownsRow.cells hown rfl j u hj) ⟨b, 0, none⟩ 1 c (K.cs [y]) (by rw [cs_length, hz1]; rfl) hsrc (by omega) (by omega) (by rw [hz2]; exact growslice_fits (by omega) b1)
        rw [hrun] at hr
        have hv := (Result.ok.inj hr).1
        exact Or.inr (by rw [hv]; rfl)
  refine ⟨v', w', hrun, ?_, h2, hw⟩
  unfold Own
  rw [cs_append, List.length_append]
  exact h1
theorem app_at {α : Type} {ops : Array Oper} {rest : List Oper} {o : Oper} {a : Act} {Q : Exit → Act → World → Prop} (K : Knd α) (w : World)
    (hg : o.guard = none) (s x : Operand) (hop : o.op = Op.call { callee := Callee.builtin Builtin.append, args := #[s, x], argTypes := #[K.s, K.s] })
    (B : Nat) (v : Value) (l : List α) (hs : a.eval s = v) (hown : Own K w B v l) (b c : Nat) (y : α) (t : TypeId) (hx : a.eval x = .slice (some ⟨b, 0, none⟩) 1 c) (hb : Blk w b (K.enc y) t)
    (b0 : l.length + 1 ≤ 1000000000000) (b1 : (l.length + 1) * K.by_ ≤ 140737488355328) (b4 : B ≤ w.heap.size)
    (hK : ∀ v' w', Own K w' B v' (l ++ [y]) → w.grownBy w' v.ownBlock → (v'.ownBlock = v.ownBlock ∨ v'.ownBlock = some w.heap.size) → wpList Try.prog ops Q rest (a.put o.dst v') w') : wpList Try.prog ops Q (o :: rest) a w := by
  obtain ⟨v', w', hrun, h1, h2, hw⟩ := run_at K w o.type B v l hown b c y t hb b0 b1 b4
  refine wpList_plain hg fun _ hK' => ?_
  unfold Oper.wp
  simp [execOp, hop, resolve, invoke, builtin, hs, hx, hrun, Result.andThen]
  exact hK' _ _ (hK v' w' h1 h2 hw)
/-- the same, a step of a region that draws -/
theorem step_at {α : Type} {ops : Array Oper} {o : Oper} {a : Act} {w : World} {C : Act → World → Prop} {Q : Exit → Act → World → Prop} {E : Prop} (K : Knd α)
    (hg : o.guard = none) (s x : Operand) (hop : o.op = Op.call { callee := Callee.builtin Builtin.append, args := #[s, x], argTypes := #[K.s, K.s] })
    (B : Nat) (v : Value) (l : List α) (hs : a.eval s = v) (hown : Own K w B v l) (b c : Nat) (y : α) (t : TypeId) (hx : a.eval x = .slice (some ⟨b, 0, none⟩) 1 c) (hb : Blk w b (K.enc y) t)
    (b0 : l.length + 1 ≤ 1000000000000) (b1 : (l.length + 1) * K.by_ ≤ 140737488355328) (b4 : B ≤ w.heap.size)
    (hK : ∀ v' w', Own K w' B v' (l ++ [y]) → w.grownBy w' v.ownBlock → (v'.ownBlock = v.ownBlock ∨ v'.ownBlock = some w.heap.size) → C (a.put o.dst v') w') :
    if Region.wanted o (yielded ops a.tmps) = true then Oper.wp Try.prog o a w C Q else E := by
  have hw : Region.wanted o (yielded ops a.tmps) = true := by simp [Region.wanted, hg]
  rw [if_pos hw]
  obtain ⟨v', w', hrun, h1, h2, hwh⟩ := run_at K w o.type B v l hown b c y t hb b0 b1 b4
  unfold Oper.wp
  simp [execOp, hop, resolve, invoke, builtin, hs, hx, hrun, Result.andThen]
  exact hK v' w' h1 h2 hwh
/-- a row is not where the other one is: another kind -/
theorem kinds_ne {α β : Type} {K : Knd α} {K' : Knd β} {w : World} {B B' : Nat} {v v' : Value} {l : List α} {l' : List β} (h : Own K w B v l) (k : Own K' w B' v' l') (hk : K.e ≠ K'.e) : v.ownBlock = none ∨ v.ownBlock ≠ v'.ownBlock := by
  cases e : v.ownBlock with
  | none => exact Or.inl rfl
  | some g =>
    right
    intro e2
    obtain ⟨c, hc⟩ := own_kind h g e
    obtain ⟨c', hc'⟩ := own_kind k g e2.symm
    rw [hc] at hc'
    simp only [Option.some.injEq, Obj.cells.injEq] at hc'
    exact hk hc'.2.1
theorem own_grown {α : Type} {K : Knd α} {w w' : World} {B : Nat} {v : Value} {l : List α} {row : Option Nat} (h : Own K w B v l) (g : w.grownBy w' row) (hne : v.ownBlock = none ∨ v.ownBlock ≠ row) : Own K w' B v l :=
  World.ownsRow.kept (row := row) h ⟨g.os, g.tape, g.output, g.size, g.block⟩ hne
/-- of what there was just the row's own block may have turned; it lies there still, or in what is new -/
def Only (v v' : Value) (w w' : World) : Prop := w.grownBy w' v.ownBlock ∧ ∀ g, v'.ownBlock = some g → v.ownBlock = some g ∨ w.heap.size ≤ g
theorem Only.of_below {v : Value} {w w' : World} (h : Below w.heap.size w w') : Only v v w w' := ⟨⟨h.os, h.tape, h.output, h.size, fun k hk _ => h.block k hk⟩, fun _ hg => Or.inl hg⟩
theorem Only.refl (v : Value) (w : World) : Only v v w w := Only.of_below (Below.refl _ _)
theorem Only.trans {v v1 v2 : Value} {w w1 w2 : World} (h : Only v v1 w w1) (k : Only v1 v2 w1 w2) : Only v v2 w w2 := by
  refine ⟨⟨k.1.os.trans h.1.os, k.1.tape.trans h.1.tape, k.1.output.trans h.1.output, Nat.le_trans h.1.size k.1.size, fun b hb hne => ?_⟩, fun g hg => ?_⟩
  · refine (k.1.block b (Nat.lt_of_lt_of_le hb h.1.size) fun e => ?_).trans (h.1.block b hb hne)
    rcases h.2 b e.symm with e2 | e2
    · exact hne e2.symm
    · omega
  · rcases k.2 g hg with e | e
    · exact h.2 g e
    · exact Or.inr (Nat.le_trans h.1.size e)
theorem Only.of_but {v : Value} {g : Nat} {w w' : World} (h : But g w w') (hv : v.ownBlock = some g) : Only v v w w' := by
  refine ⟨⟨h.os, h.tape, h.output, by rw [h.size]; exact Nat.le_refl _, fun b hb hne => h.block b fun e => hne (by rw [hv, e])⟩, fun _ hg => Or.inl hg⟩
theorem Only.of_app {v v' : Value} {w w' : World} (h : w.grownBy w' v.ownBlock) (k : v'.ownBlock = v.ownBlock ∨ v'.ownBlock = some w.heap.size) : Only v v' w w' := by
  refine ⟨h, fun g hg => ?_⟩
  rcases k with e | e
  · exact Or.inl (by rw [← e]; exact hg)
  · rw [e] at hg; cases hg; exact Or.inr (Nat.le_refl _)
theorem Only.blk {v v' : Value} {w w' : World} (h : Only v v' w w') {b : Nat} {F : Array Value} {t : TypeId} (k : Blk w b F t) (hne : v.ownBlock ≠ some b) : Blk w' b F t := (h.1.block b k.lt fun e => hne e.symm).trans k
theorem Only.below {v v' : Value} {w w' : World} (h : Only v v' w w') {B : Nat} (hv : ∀ g, v.ownBlock = some g → B ≤ g) (hB : B ≤ w.heap.size) : Below B w w' :=
  ⟨h.1.os, h.1.tape, h.1.output, h.1.size, fun k hk => h.1.block k (Nat.lt_of_lt_of_le hk hB) fun e => by have := hv k e.symm; omega⟩
/-- where a row of the call's own lies -/
theorem own_ge {α : Type} {K : Knd α} {w : World} {B : Nat} {v : Value} {l : List α} (h : Own K w B v l) : ∀ g, v.ownBlock = some g → B ≤ g := fun g hg => (World.ownsRow.lt h g hg).1
theorem own_lt {α : Type} {K : Knd α} {w : World} {B : Nat} {v : Value} {l : List α} (h : Own K w B v l) : ∀ g, v.ownBlock = some g → g < w.heap.size := fun g hg => (World.ownsRow.lt h g hg).2
end Go.Proofs.Ytbhejjpkmnldhaa.rwat
