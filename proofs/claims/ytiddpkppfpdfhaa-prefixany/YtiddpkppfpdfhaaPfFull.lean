/- Rows of nodes of the call's own that hold nodes' cells up to their cap: what may be written all over. -/
import Derived.Test.YtiddpkppfpdfhaaPfBase
import Derived.Test.YtiddpkppfpdfhaaRwsAt
namespace Go.Proofs.Ytiddpkppfpdfhaa.pf
open Go.ChangeShapes Go.WideShapes Go.ChangeAt Go.RowKit
open Go.Proofs.Ytiddpkppfpdfhaa.pm Go.Proofs.Ytiddpkppfpdfhaa.boxes Go.Proofs.Ytiddpkppfpdfhaa.rwr Go.Proofs.Ytiddpkppfpdfhaa.rwat
open Go.Proofs.Ytiddpkppfpdfhaa.rws (Knd Own cs_length cs_at cs_append cs_one)

/-- each fourth cell is a number -/
def flL (cs : List Value) : Prop := ∀ i, i * 4 + 3 < cs.length → ∃ z : Int, cs[i * 4 + 3]? = some (.int .i64 z)
theorem flL_append {a b : List Value} {n : Nat} (ha : flL a) (hn : a.length = n * 4) (hb : flL b) : flL (a ++ b) := by
  intro i hi
  by_cases h : i * 4 + 3 < a.length
  · rw [List.getElem?_append_left h]; exact ha i h
  · rw [List.getElem?_append_right (by omega)]
    rw [List.length_append] at hi
    have e : i * 4 + 3 - a.length = (i - n) * 4 + 3 := by omega
    rw [e]
    exact hb _ (by omega)
theorem flL_cs (l : List Nd) : flL (DK.cs l) := by
  intro i hi
  have hl : (DK.cs l).length = l.length * 4 := cs_length DK l
  have h1 : i < l.length := by omega
  have e := cs_at DK l i l[i] (List.getElem?_eq_getElem h1) 3 (by decide)
  exact ⟨_, e⟩
theorem flL_drop {cs : List Value} (h : flL cs) (n : Nat) : flL (cs.drop (n * 4)) := by
  intro i hi
  rw [List.getElem?_drop]
  rw [List.length_drop] at hi
  have e : n * 4 + (i * 4 + 3) = (n + i) * 4 + 3 := by omega
  rw [e]
  exact h _ (by omega)
theorem flL_take {cs : List Value} (h : flL cs) (n : Nat) : flL (cs.take n) := by
  intro i hi
  rw [List.length_take] at hi
  rw [List.getElem?_take_of_lt (by omega)]
  exact h _ (by omega)
theorem flL_set {cs : List Value} (h : flL cs) (j i : Nat) (u : Value) (hi : i < 4) (hu : i = 3 → ∃ z : Int, u = .int .i64 z) : flL (cs.set (j * 4 + i) u) := by
  intro k hk
  rw [List.length_set] at hk
  by_cases e : j * 4 + i = k * 4 + 3
  · rw [e, List.getElem?_set_self hk]
    obtain ⟨z, rfl⟩ := hu (by omega)
    exact ⟨z, rfl⟩
  · rw [List.getElem?_set_ne e]
    exact h k hk
theorem flL_zero (m : Nat) : flL (Builtin.zeroCells DK.z.cells m).toList := by
  intro i hi
  have hs : DK.z.cells.size = 4 := rfl
  simp only [Builtin.zeroCells, Array.toList_map, List.length_map, Array.length_toList, Array.size_range, hs] at hi
  refine ⟨0, ?_⟩
  have e : (i * 4 + 3) % 4 = 3 := by omega
  simp only [Builtin.zeroCells, hs, Array.getElem?_toList, Array.getElem?_map]
  rw [Array.getElem?_range]
  rw [if_pos (by omega)]
  simp only [Option.map_some, e]
  rfl
/-- that which the slice's whole row holds -/
def Full (w : World) (v : Value) : Prop := ∀ g cur e s, v.ownBlock = some g → w.heap[g]? = some (.cells cur e s) → flL cur.toList
theorem Full.same {w w' : World} {v : Value} (h : Full w v) (e : ∀ g, v.ownBlock = some g → w'.heap[g]? = w.heap[g]?) : Full w' v := fun g cur t s hg hc => h g cur t s hg (by rw [← e g hg]; exact hc)
def FO (w : World) (B : Nat) (v : Value) (l : List Nd) : Prop := Own DK w B v l ∧ Full w v
theorem FO.own {w : World} {B : Nat} {v : Value} {l : List Nd} (h : FO w B v l) : Own DK w B v l := h.1
theorem FO.nil (w : World) (B : Nat) : FO w B (.slice none 0 0) [] := ⟨Own.nil _ _ _, fun g cur e s h => by simp [Value.ownBlock] at h⟩
theorem FO.rd {w : World} {B : Nat} {v : Value} {l : List Nd} (h : FO w B v l) : Rd DK w v l := Own.rd h.1
theorem fo_lt {w : World} {B : Nat} {v : Value} {l : List Nd} (h : FO w B v l) : ∀ g, v.ownBlock = some g → g < w.heap.size := own_lt h.1
theorem fo_ge {w : World} {B : Nat} {v : Value} {l : List Nd} (h : FO w B v l) : ∀ g, v.ownBlock = some g → B ≤ g := own_ge h.1
theorem fo_ne {w : World} {B g : Nat} {v : Value} {l : List Nd} (h : FO w B v l) (hg : g < B) : v.ownBlock ≠ some g := own_ne h.1 hg
theorem FO.alloc {w : World} {B : Nat} {v : Value} {l : List Nd} (h : FO w B v l) (o : Obj) : FO (w.alloc o) B v l := by
  refine ⟨h.1.alloc o, h.2.same fun g hg => ?_⟩
  have hlt := own_lt h.1 g hg
  have e : (w.alloc o).heap = w.heap.push o := rfl
  rw [e, Array.getElem?_push_lt hlt, Array.getElem?_eq_getElem hlt]
theorem FO.kept {w w' : World} {B : Nat} {v : Value} {l : List Nd} (h : FO w B v l) (hb : Below w.heap.size w w') : FO w' B v l :=
  ⟨h.1.kept hb, h.2.same fun g hg => hb.block g (own_lt h.1 g hg)⟩
theorem FO.mono {w : World} {B B' : Nat} {v : Value} {l : List Nd} (h : FO w B v l) (hb : B' ≤ B) : FO w B' v l := ⟨h.1.mono hb, h.2⟩
theorem FO.but {w w' : World} {B b : Nat} {v : Value} {l : List Nd} (h : FO w B v l) (hb : But b w w') (hne : v.ownBlock ≠ some b) : FO w' B v l :=
  ⟨h.1.but hb hne, h.2.same fun g hg => hb.block g fun e => hne (by rw [hg, e])⟩
theorem FO.setCell {w : World} {B b i : Nat} {v u : Value} {l : List Nd} (h : FO w B v l) (hne : v.ownBlock ≠ some b) : FO (w.setCell ⟨b, i, none⟩ u) B v l := h.but (but_setCell w b i u) hne
theorem FO.form {w : World} {B : Nat} {v : Value} {l : List Nd} (h : FO w B v l) (hl : 0 < l.length) :
    ∃ g cap, v = .slice (some ⟨g, 0, none⟩) l.length cap ∧ B ≤ g ∧ g < w.heap.size ∧ l.length ≤ cap ∧ cap ≤ maxLen ∧ ∀ j x, l[j]? = some x → ∀ i, i < DK.k → w.cell? ⟨g, j * DK.k + i, none⟩ = (DK.enc x)[i]? := h.1.form hl
theorem FO.forms {w : World} {B : Nat} {v : Value} {l : List Nd} (h : FO w B v l) : (v = .slice none 0 0 ∧ l = []) ∨ ∃ g cap, v = .slice (some ⟨g, 0, none⟩) l.length cap ∧ B ≤ g ∧ g < w.heap.size ∧ l.length ≤ cap ∧ cap ≤ maxLen := h.1.forms
theorem FO.cell {w : World} {B g cap n : Nat} {l : List Nd} (h : FO w B (.slice (some ⟨g, 0, none⟩) n cap) l) {j : Nat} {x : Nd} (hj : l[j]? = some x) {i : Nat} (hi : i < DK.k) : w.cell? ⟨g, j * DK.k + i, none⟩ = (DK.enc x)[i]? := h.1.cell hj hi
theorem FO.put {w : World} {B g n cap : Nat} {l : List Nd} (h : FO w B (.slice (some ⟨g, 0, none⟩) n cap) l) (j i : Nat) (x y : Nd) (u : Value) (hx : l[j]? = some x) (hi : i < DK.k) (he : (DK.enc y) = (DK.enc x).setIfInBounds i u) :
    FO (w.setCell ⟨g, j * DK.k + i, none⟩ u) B (.slice (some ⟨g, 0, none⟩) n cap) (l.set j y) ∧ w.frozen? ⟨g, j * DK.k + i, none⟩ = false ∧ B ≤ g := by
  obtain ⟨h1, h2, h3⟩ := Own.put h.1 j i x y u hx hi he
  refine ⟨⟨h1, fun g' cur e s hg hc => ?_⟩, h2, h3⟩
  have hgg : g = g' := by simpa [Value.ownBlock] using hg
  subst hgg
  obtain ⟨cu, hcu⟩ := own_kind h.1 g rfl
  have hb : Blk w g cu DK.e := hcu
  have hs : (w.setCell ⟨g, j * DK.k + i, none⟩ u).heap[g]? = some (.cells (cu.setIfInBounds (j * DK.k + i) u) DK.e (0, 0)) := hb.setCell _ _
  rw [hs] at hc
  simp only [Option.some.injEq, Obj.cells.injEq] at hc
  rw [← hc.1, Array.toList_setIfInBounds]
  refine flL_set (h.2 g cu _ _ rfl hcu) j i u hi fun e3 => ?_
  subst e3
  have e4 : (DK.enc y)[3]? = some u := by
    rw [he, Array.getElem?_setIfInBounds_self]
    rw [if_pos (by rw [DK.hk]; decide)]
  have e5 : (DK.enc y)[3]? = some (.int .i64 y.v) := rfl
  rw [e5] at e4
  exact ⟨_, (Option.some.inj e4).symm⟩
theorem run_full (w : World) (ty : TypeId) (B : Nat) (v : Value) (l : List Nd) (hown : FO w B v l) (b c : Nat) (y : Nd) (t : TypeId) (hb : Blk w b (DK.enc y) t)
    (b0 : l.length + 1 ≤ 1000000000000) (b1 : (l.length + 1) * DK.by_ ≤ 140737488355328) (b4 : B ≤ w.heap.size) :
    ∃ v' w', (Builtin.append_ #[DK.s, DK.s] ty #[v, .slice (some ⟨b, 0, none⟩) 1 c]).run Try.prog w = .ok v' w' ∧ FO w' B v' (l ++ [y]) ∧ w.grownBy w' v.ownBlock ∧ (v'.ownBlock = v.ownBlock ∨ v'.ownBlock = some w.heap.size) := by
  obtain ⟨v', w', hrun, h1, h2, hw⟩ := run_at DK w ty B v l hown.1 b c y t hb b0 b1 b4
  refine ⟨v', w', hrun, ⟨h1, ?_⟩, h2, hw⟩
  obtain ⟨i0, hi, hz0, hz1, hz2⟩ := info_parts DK.info
  have hz1' : i0.size = 4 := hz1
  have hsrc : ∀ j u, (DK.cs [y])[j]? = some u → w.cell? ((⟨b, 0, none⟩ : Addr).add j) = some u := fun j u hj => by
    have e : (⟨b, 0, none⟩ : Addr).add j = ⟨b, j, none⟩ := by unfold Addr.add; split <;> simp_all
    have e2 : DK.cs [y] = (DK.enc y).toList := by simp [Knd.cs]
    rw [e2] at hj
    rw [e, hb.cell, ← hj]
    exact (Array.getElem?_toList).symm
  have hl1 : (DK.cs [y]).length = 1 * 4 := cs_length DK [y]
  have hl0 : (DK.cs l).length = l.length * 4 := cs_length DK l
  have hby : DK.by_ = 32 := rfl
  have hpush : ∀ (o : Obj), (w.drew.alloc o).heap[w.heap.size]? = some o := fun o => by
    have e : (w.drew.alloc o).heap = w.heap.push o := rfl
    rw [e, Array.getElem?_push_size]
  rcases hown.1.2 with ⟨rfl, hn⟩ | ⟨g, cap, cur, rfl, hB, hg', hnc, hm, hcs, htake⟩
  · have hr := run_append_nil (P := Try.prog) w DK.s ty DK.e i0 DK.z DK.hs hi hz0 ⟨b, 0, none⟩ 1 c (DK.cs [y]) (by rw [cs_length, hz1]; rfl) hsrc (by omega) (by omega) (by rw [hz2, hby]; decide)
    rw [hrun] at hr
    have hv := (Result.ok.inj hr).1
    have hw' := (Result.ok.inj hr).2
    intro g cur e s hg hc
    rw [hv] at hg
    have hgg : w.heap.size = g := by simpa [Value.ownBlock] using hg
    subst hgg
    rw [hw', hpush] at hc
    simp only [Option.some.injEq, Obj.cells.injEq] at hc
    rw [← hc.1]
    simp only [Array.toList_append]
    exact flL_append (n := 1) (flL_cs [y]) hl1 (flL_zero _)
  · by_cases hroom : l.length + 1 ≤ cap
    · have hfit : l.length * i0.size + (DK.cs [y]).length ≤ cur.size := by rw [hl1, hz1', hcs]; show _ ≤ cap * 4; omega
      have hr := run_append_room (P := Try.prog) w DK.s ty DK.e i0 DK.hs hi g l.length cap cur hg' ⟨b, 0, none⟩ 1 c (DK.cs [y]) (by rw [cs_length, hz1]; rfl) hsrc (cs_one DK [y]) hroom hfit
      rw [hrun] at hr
      have hv := (Result.ok.inj hr).1
      have hw' := (Result.ok.inj hr).2
      have hf := hown.2 g cur _ _ rfl hg'
      intro g2 cur2 e s hg hc
      rw [hv] at hg
      have hgg : g = g2 := by simpa [Value.ownBlock] using hg
      subst hgg
      rw [hw', setRow_heap w g cur _ DK.e _ hg'] at hc
      simp only [Option.some.injEq, Obj.cells.injEq] at hc
      rw [← hc.1]
      rw [hl1, hz1'] at hfit ⊢
      have e1 : l.length * 4 + 1 * 4 = (l.length + 1) * 4 := by omega
      rw [e1]
      have hcs4 : cur.size = cap * 4 := hcs
      have e2 : (cur.toList.take (l.length * 4)).length = l.length * 4 := by
        have e3 : cur.toList.length = cur.size := Array.length_toList
        rw [List.length_take, e3]; omega
      refine flL_append (n := l.length + 1) (flL_append (n := l.length) (flL_take hf _) e2 (flL_cs [y])) ?_ (flL_drop hf _)
      rw [List.length_append, e2, hl1]; omega
    · have hr := run_append_grow (P := Try.prog) w DK.s ty DK.e i0 DK.z DK.hs hi hz0 ⟨g, 0, none⟩ l.length cap (DK.cs l) (by rw [cs_length, hz1]) (fun j u hj => World.ownsRow.cells hown.1 rfl j u hj) ⟨b, 0, none⟩ 1 c (DK.cs [y]) (by rw [cs_length, hz1]; rfl) hsrc (by omega) (by omega) (by rw [hz2]; exact growslice_fits (by omega) b1)
      rw [hrun] at hr
      have hv := (Result.ok.inj hr).1
      have hw' := (Result.ok.inj hr).2
      intro g2 cur2 e s hg hc
      rw [hv] at hg
      have hgg : w.heap.size = g2 := by simpa [Value.ownBlock] using hg
      subst hgg
      rw [hw', hpush] at hc
      simp only [Option.some.injEq, Obj.cells.injEq] at hc
      rw [← hc.1]
      simp only [Array.toList_append]
      refine flL_append (n := l.length + 1) (flL_append (n := l.length) (flL_cs l) hl0 (flL_cs [y])) ?_ (flL_zero _)
      simp only [List.length_append]
      rw [hl0, hl1]; omega
theorem app_full {ops : Array Oper} {rest : List Oper} {o : Oper} {a : Act} {Q : Exit → Act → World → Prop} (w : World)
    (hg : o.guard = none) (s x : Operand) (hop : o.op = Op.call { callee := Callee.builtin Builtin.append, args := #[s, x], argTypes := #[DK.s, DK.s] })
    (B : Nat) (v : Value) (l : List Nd) (hs : a.eval s = v) (hown : FO w B v l) (b c : Nat) (y : Nd) (t : TypeId) (hx : a.eval x = .slice (some ⟨b, 0, none⟩) 1 c) (hb : Blk w b (DK.enc y) t)
    (b0 : l.length + 1 ≤ 1000000000000) (b1 : (l.length + 1) * DK.by_ ≤ 140737488355328) (b4 : B ≤ w.heap.size)
    (hK : ∀ v' w', FO w' B v' (l ++ [y]) → w.grownBy w' v.ownBlock → (v'.ownBlock = v.ownBlock ∨ v'.ownBlock = some w.heap.size) → wpList Try.prog ops Q rest (a.put o.dst v') w') : wpList Try.prog ops Q (o :: rest) a w := by
  obtain ⟨v', w', hrun, h1, h2, hw⟩ := run_full w o.type B v l hown b c y t hb b0 b1 b4
  refine wpList_plain hg fun _ hK' => ?_
  unfold Oper.wp
  simp [execOp, hop, resolve, invoke, builtin, hs, hx, hrun, Result.andThen]
  exact hK' _ _ (hK v' w' h1 h2 hw)
end Go.Proofs.Ytiddpkppfpdfhaa.pf
