/- Rows of structs that the call itself has made: how they are kept, read, and lengthened. -/
import Derived.Test.YtbhejjpkmnldhaaBoxes
import Derived.OwnWalk
import Derived.Laws.OwnMore
namespace Go.Proofs.Ytbhejjpkmnldhaa.rws
open Go.ChangeShapes Go.WideShapes Go.ChangeAt Go.RowKit
open Go.Proofs.Ytbhejjpkmnldhaa.boxes

/-- a kind of elements: their type, the slice's, how many cells and bytes each has, the zero value, their cells -/
structure Knd (α : Type) where
  e : TypeId
  s : TypeId
  k : Nat
  by_ : Nat
  z : Value
  enc : α → Array Value
  hk : ∀ x, (enc x).size = k
  h1 : ∀ x, (enc x).all (·.oneCell') = true
  pos : 0 < k
  hz : z.cells.size = k
  hs : Try.prog.underlying s = some (.slice e)
  info : (Try.prog.info? e).map (fun i => (i.zero, i.size, i.bytes)) = some (some z, k, by_)

section
variable {α : Type} {K : Knd α}
/-- all their cells -/
def Knd.cs (K : Knd α) (l : List α) : List Value := l.flatMap fun x => (K.enc x).toList
theorem cs_length (K : Knd α) (l : List α) : (K.cs l).length = l.length * K.k := by
  induction l with
  | nil => simp [Knd.cs]
  | cons x r ih =>
    have : K.cs (x :: r) = (K.enc x).toList ++ K.cs r := rfl
    rw [this, List.length_append, ih, Array.length_toList, K.hk, List.length_cons, Nat.add_mul]; omega
theorem cs_append (K : Knd α) (l m : List α) : K.cs (l ++ m) = K.cs l ++ K.cs m := by simp [Knd.cs]
theorem cs_one (K : Knd α) (l : List α) : ∀ u ∈ K.cs l, u.oneCell' = true := by
  intro u hu
  obtain ⟨x, _, hx⟩ := List.mem_flatMap.1 hu
  exact Array.all_eq_true'.1 (K.h1 x) u (by simpa using hx)
theorem cs_at (K : Knd α) : ∀ (l : List α) (j : Nat) (x : α), l[j]? = some x → ∀ i, i < K.k → (K.cs l)[j * K.k + i]? = (K.enc x)[i]? := by
  intro l
  induction l with
  | nil => intro j x h; simp at h
  | cons y r ih =>
    intro j x h i hi
    have e : K.cs (y :: r) = (K.enc y).toList ++ K.cs r := rfl
    rw [e]
    cases j with
    | zero =>
      simp at h; subst h
      rw [List.getElem?_append_left (by rw [Array.length_toList, K.hk]; omega)]
      simp
    | succ j =>
      rw [List.getElem?_append_right (by rw [Array.length_toList, K.hk, Nat.add_mul]; omega), Array.length_toList, K.hk]
      have : (j + 1) * K.k + i - K.k = j * K.k + i := by rw [Nat.add_mul]; omega
      rw [this]
      exact ih j x (by simpa using h) i hi
/-- the slice v, its row among the blocks from B on, holds l -/
def Own (K : Knd α) (w : World) (B : Nat) (v : Value) (l : List α) : Prop := w.ownsRow B K.e K.k v l.length (K.cs l)
theorem Own.nil (K : Knd α) (w : World) (B : Nat) : Own K w B (.slice none 0 0) [] := World.ownsRow_nil w B _ _
theorem Own.alloc {w : World} {B : Nat} {v : Value} {l : List α} (h : Own K w B v l) (o : Obj) : Own K (w.alloc o) B v l := World.ownsRow.alloc h o
theorem Own.drew {w : World} {B : Nat} {v : Value} {l : List α} (h : Own K w B v l) : Own K w.drew B v l := h
theorem Own.drewN {w : World} {B : Nat} {v : Value} {l : List α} (h : Own K w B v l) (n : Nat) : Own K (w.drewN n) B v l := h
theorem Own.kept {w w' : World} {B : Nat} {v : Value} {l : List α} (h : Own K w B v l) (hb : Below w.heap.size w w') : Own K w' B v l :=
  World.ownsRow.kept (row := none) h ⟨hb.os, hb.tape, hb.output, hb.size, fun k hk _ => hb.block k hk⟩ (by cases hv : v.ownBlock <;> simp)
theorem Own.mono {w : World} {B B' : Nat} {v : Value} {l : List α} (h : Own K w B v l) (hb : B' ≤ B) : Own K w B' v l := Joins.ownsRow_le h hb
/-- where another block turns -/
theorem Own.but {w w' : World} {B b : Nat} {v : Value} {l : List α} (h : Own K w B v l) (hb : But b w w') (hne : v.ownBlock ≠ some b) : Own K w' B v l :=
  World.ownsRow.kept (row := some b) h ⟨hb.os, hb.tape, hb.output, by rw [hb.size]; exact Nat.le_refl _, fun k _ hk => hb.block k (fun e => hk (by rw [e]))⟩ (Or.inr hne)
theorem Own.setCell {w : World} {B b i : Nat} {v u : Value} {l : List α} (h : Own K w B v l) (hne : v.ownBlock ≠ some b) : Own K (w.setCell ⟨b, i, none⟩ u) B v l := h.but (but_setCell w b i u) hne
/-- a slice that was built -/
theorem Own.lit (K : Knd α) (w : World) (B : Nat) (hB : B ≤ w.heap.size) (l : List α) (hl : l.length ≤ maxLen) (F : Array Value) (hF : F.toList = K.cs l) :
    Own K (w.alloc (.cells F K.e)) B (.slice (some ⟨w.heap.size, 0, none⟩) l.length l.length) l := by
  have := World.ownsRow_lit (base := B) (e := K.e) (size := K.k) w F l.length hB hl (by rw [← Array.length_toList, hF, cs_length])
  rw [hF] at this
  exact this
/-- its form, and its cells -/
theorem Own.form {w : World} {B : Nat} {v : Value} {l : List α} (h : Own K w B v l) (hl : 0 < l.length) :
    ∃ g cap, v = .slice (some ⟨g, 0, none⟩) l.length cap ∧ B ≤ g ∧ g < w.heap.size ∧ l.length ≤ cap ∧ cap ≤ maxLen ∧ ∀ j x, l[j]? = some x → ∀ i, i < K.k → w.cell? ⟨g, j * K.k + i, none⟩ = (K.enc x)[i]? := by
  rcases h.2 with ⟨rfl, hn⟩ | ⟨g, cap, cur, rfl, hB, hg, hnc, hm, hcs, htake⟩
  · omega
  · refine ⟨g, cap, rfl, hB, (World.ownsRow.lt h g rfl).2, hnc, hm, fun j x hj i hi => ?_⟩
    have hjl := (List.getElem?_eq_some_iff.1 hj).1
    have : j * K.k + i < l.length * K.k := by
      have := Nat.mul_le_mul_right K.k hjl
      rw [Nat.succ_mul] at this; omega
    rw [World.ownsRow.cellAt h _ this]
    exact cs_at K l j x hj i hi
theorem Own.forms {w : World} {B : Nat} {v : Value} {l : List α} (h : Own K w B v l) : (v = .slice none 0 0 ∧ l = []) ∨ ∃ g cap, v = .slice (some ⟨g, 0, none⟩) l.length cap ∧ B ≤ g ∧ g < w.heap.size ∧ l.length ≤ cap ∧ cap ≤ maxLen := by
  rcases h.2 with ⟨rfl, hn⟩ | ⟨g, cap, cur, rfl, hB, hg, hnc, hm, hcs, htake⟩
  · exact Or.inl ⟨rfl, List.eq_nil_of_length_eq_zero hn⟩
  · exact Or.inr ⟨g, cap, rfl, hB, (World.ownsRow.lt h g rfl).2, hnc, hm⟩
theorem Own.cell {w : World} {B g cap n : Nat} {l : List α} (h : Own K w B (.slice (some ⟨g, 0, none⟩) n cap) l) {j : Nat} {x : α} (hj : l[j]? = some x) {i : Nat} (hi : i < K.k) : w.cell? ⟨g, j * K.k + i, none⟩ = (K.enc x)[i]? := by
  obtain ⟨g', cap', e, _, _, _, _, hc⟩ := h.form (by have := (List.getElem?_eq_some_iff.1 hj).1; omega)
  simp only [Value.slice.injEq, Option.some.injEq, Addr.mk.injEq, and_true] at e
  rw [e.1]; exact hc j x hj i hi
/-- elements more, out of whatever cells -/
theorem app_own {ops : Array Oper} {rest : List Oper} {o : Oper} {a : Act} {Q : Exit → Act → World → Prop} (K : Knd α) (w : World)
    (hg : o.guard = none) (s x : Operand) (hop : o.op = Op.call { callee := Callee.builtin Builtin.append, args := #[s, x], argTypes := #[K.s, K.s] })
    (B : Nat) (v : Value) (l : List α) (hs : a.eval s = v) (hown : Own K w B v l) (ad : Addr) (m c : Nat) (news : List α) (hx : a.eval x = .slice (some ad) m c) (hm : news.length = m)
    (hc : ∀ j u, (K.cs news)[j]? = some u → w.cell? (ad.add j) = some u) (b0 : l.length + m ≤ maxLen) (b1 : (l.length + m) * K.by_ ≤ 140737488355328) (b4 : B ≤ w.heap.size)
    (hK : ∀ v' w', Own K w' B v' (l ++ news) → Below B w w' → w.grownBy w' v.ownBlock → wpList Try.prog ops Q rest (a.put o.dst v') w') : wpList Try.prog ops Q (o :: rest) a w := by
  obtain ⟨i0, hi, hz0, hz1, hz2⟩ := info_parts K.info
  refine wpList_append_own w hg s x K.s hop B K.e i0 K.z K.k K.by_ K.hs hi hz0 hz1 hz2 K.hz K.pos v l.length (K.cs l) hs hown ad m c (K.cs news) hx (by rw [cs_length, hm]) hc (cs_one K news) b0 b1 b4 ?_
  intro v' w' h1 h2 _
  refine hK v' w' ?_ ?_ h2
  · unfold Own
    rw [cs_append, List.length_append, hm]
    exact h1
  · exact (Below.refl _ _).grown h2 b4 (fun k hk => (hown.lt k hk).1)
/-- one element more, out of a block -/
theorem app_one {ops : Array Oper} {rest : List Oper} {o : Oper} {a : Act} {Q : Exit → Act → World → Prop} (K : Knd α) (w : World)
    (hg : o.guard = none) (s x : Operand) (hop : o.op = Op.call { callee := Callee.builtin Builtin.append, args := #[s, x], argTypes := #[K.s, K.s] })
    (B : Nat) (v : Value) (l : List α) (hs : a.eval s = v) (hown : Own K w B v l) (b c : Nat) (y : α) (t : TypeId) (hx : a.eval x = .slice (some ⟨b, 0, none⟩) 1 c) (hb : Blk w b (K.enc y) t)
    (b0 : l.length + 1 ≤ maxLen) (b1 : (l.length + 1) * K.by_ ≤ 140737488355328) (b4 : B ≤ w.heap.size)
    (hK : ∀ v' w', Own K w' B v' (l ++ [y]) → Below B w w' → w.grownBy w' v.ownBlock → wpList Try.prog ops Q rest (a.put o.dst v') w') : wpList Try.prog ops Q (o :: rest) a w := by
  refine app_own K w hg s x hop B v l hs hown ⟨b, 0, none⟩ 1 c [y] hx rfl (fun j u hj => ?_) b0 b1 b4 hK
  have e : (⟨b, 0, none⟩ : Addr).add j = ⟨b, j, none⟩ := by unfold Addr.add; split <;> simp_all
  rw [e, hb.cell]
  simpa [Knd.cs] using hj
theorem run_load_at (w : World) (g off : Nat) (ty : TypeId) (cs : Array Value) (d : TypeDesc) (hc : ∀ i, i < cs.size → w.cell? ⟨g, off + i, none⟩ = cs[i]?)
    (hu : Try.prog.underlying ty = some d) (hd : wideD d = true) (hi : (Try.prog.info? ty).map (·.size) = some cs.size) :
    (loadVar ty ⟨g, off, none⟩).run Try.prog w = .ok (.agg cs) w := by
  have hl : (loadCells ⟨g, off, none⟩ cs.toList.length).run Try.prog w = .ok cs.toList.toArray w :=
    run_loadCells_list (P := Try.prog) w ⟨g, off, none⟩ cs.toList (fun j v hv => by
      have hadd : (⟨g, off, none⟩ : Addr).add j = ⟨g, off + j, none⟩ := by unfold Addr.add; split <;> simp_all
      have hj : j < cs.size := by have := (List.getElem?_eq_some_iff.1 hv).1; simpa using this
      rw [hadd, hc j hj]
      simpa using hv)
  cases hq : Try.prog.info? ty with
  | none => simp [hq] at hi
  | some i =>
    have hs : i.size = cs.size := by simpa [hq] using hi
    have hagg : (isAgg ty).run Try.prog w = .ok true w := by
      unfold isAgg
      rw [Sem.run_bind, run_underlying hu w]
      cases d <;> first | rfl | cases hd
    simp only [Array.length_toList, Array.toArray_toList] at hl
    simp [loadVar, Sem.run_bind, hagg, sizeOf, typeInfo, hq, hs, hl]
/-- an element of a row is loaded -/
theorem elem_load {ops : Array Oper} {rest : List Oper} {o : Oper} {a : Act} {Q : Exit → Act → World → Prop} (K : Knd α) (W : World) (hgd : o.guard = none) (x : Operand) (ho : o.op = .load K.e x)
    (B g n cap : Nat) (l : List α) (h : Own K W B (.slice (some ⟨g, 0, none⟩) n cap) l) (j : Nat) (off : Nat) (hx : a.eval x = .pointer (some ⟨g, off, none⟩)) (hoff : off = j * K.k) (y : α) (hy : l[j]? = some y) (F : Array Value) (hF : K.enc y = F)
    (d : TypeDesc) (hu : Try.prog.underlying K.e = some d) (hd : wideD d = true)
    (hK : wpList Try.prog ops Q rest (a.put o.dst (.agg F)) W) : wpList Try.prog ops Q (o :: rest) a W := by
  subst hF
  refine wpList_plain hgd fun _ hK' => ?_
  have hi : (Try.prog.info? K.e).map (·.size) = some (K.enc y).size := by
    obtain ⟨i0, hi, _, hz1, _⟩ := info_parts K.info
    rw [hi, K.hk]; simp [hz1]
  unfold Oper.wp execOp
  simp only [ho, hx, Instr.loadAt, Instr.sureAddr, Sem.run_bind, Sem.run_pure, Result.andThen_ok, run_load_at W g off K.e (K.enc y) d (fun i hi => by rw [hoff]; exact h.cell hy (by rwa [K.hk] at hi)) hu hd hi]
  exact hK' _ _ hK
end
end Go.Proofs.Ytbhejjpkmnldhaa.rws
