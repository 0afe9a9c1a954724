/- Rows of structs: a row that is made with zeros; an element that is stored. Pools of the call's own. -/
import Derived.Test.YtlbpapngcgnepaaFragPool
namespace Go.Proofs.Ytlbpapngcgnepaa.pl
open Go.ChangeShapes Go.WideShapes Go.ChangeAt Go.RowKit
open Go.Proofs.Ytlbpapngcgnepaa.boxes Go.Proofs.Ytlbpapngcgnepaa.rws Go.Proofs.Ytlbpapngcgnepaa.frp

section
variable {α : Type} {K : Knd α}
theorem cs_set (K : Knd α) : ∀ (l : List α) (j : Nat) (y : α), j < l.length → K.cs (l.set j y) = (K.cs l).take (j * K.k) ++ (K.enc y).toList ++ (K.cs l).drop (j * K.k + K.k)
  | [], j, y, h => by simp at h
  | x :: r, 0, y, _ => by
    have e1 : K.cs ((x :: r).set 0 y) = (K.enc y).toList ++ K.cs r := rfl
    have e2 : K.cs (x :: r) = (K.enc x).toList ++ K.cs r := rfl
    have hl : (K.enc x).toList.length = K.k := by rw [Array.length_toList, K.hk]
    rw [e1, e2, Nat.zero_mul, Nat.zero_add, List.take_zero, List.nil_append, ← hl, List.drop_left]
  | x :: r, j + 1, y, h => by
    have e1 : K.cs ((x :: r).set (j + 1) y) = (K.enc x).toList ++ K.cs (r.set j y) := rfl
    have e2 : K.cs (x :: r) = (K.enc x).toList ++ K.cs r := rfl
    have hl : (K.enc x).toList.length = K.k := by rw [Array.length_toList, K.hk]
    rw [e1, e2, cs_set K r j y (by simpa using h)]
    have t1 : (j + 1) * K.k = (K.enc x).toList.length + j * K.k := by rw [hl, Nat.add_mul]; omega
    rw [t1, List.take_length_add_append, show (K.enc x).toList.length + j * K.k + K.k = (K.enc x).toList.length + (j * K.k + K.k) by omega, List.drop_length_add_append]
    simp
/-- an element of a row is stored -/
theorem elem_store {ops : Array Oper} {rest : List Oper} {o : Oper} {a : Act} {Q : Exit → Act → World → Prop} (K : Knd α) (W : World) (hgd : o.guard = none) (x z : Operand) (ho : o.op = .store K.e x z)
    (B g n cap : Nat) (l : List α) (h : Own K W B (.slice (some ⟨g, 0, none⟩) n cap) l) (j off : Nat) (hx : a.eval x = .pointer (some ⟨g, off, none⟩)) (hoff : off = j * K.k) (hj : j < l.length) (y : α) (hz : a.eval z = .agg (K.enc y))
    (hK : ∀ W', Own K W' B (.slice (some ⟨g, 0, none⟩) n cap) (l.set j y) → But g W W' → wpList Try.prog ops Q rest (a.put o.dst undef) W') : wpList Try.prog ops Q (o :: rest) a W := by
  refine wpList_plain hgd fun _ hK' => ?_
  have hl1 := h.1
  rcases h.2 with ⟨e, _⟩ | ⟨g', cap', cur, e, hB, hg, hnc, hm, hcs, htake⟩
  · simp at e
  · simp only [Value.slice.injEq, Option.some.injEq, Addr.mk.injEq, and_true] at e
    obtain ⟨rfl, rfl, rfl⟩ := e
    obtain ⟨i0, hi, _, hz1, _⟩ := info_parts K.info
    have hk := K.hk y
    have hkl : (K.enc y).toList.length = K.k := by rw [Array.length_toList, hk]
    have hjk : j * K.k + K.k ≤ l.length * K.k := by
      have := Nat.mul_le_mul_right K.k hj
      rwa [Nat.succ_mul] at this
    have hlc : l.length * K.k ≤ cur.size := by rw [hcs]; exact Nat.mul_le_mul_right _ hnc
    have hst := run_storeCells_at (P := Try.prog) g off K.e (K.enc y).toList 0 cur W hg (by rw [Array.length_toList, hk, hoff]; omega) (fun v hv => Array.all_eq_true'.1 (K.h1 y) v (by simpa using hv))
    have hsv : (storeVar K.e ⟨g, off, none⟩ (.agg (K.enc y))).run Try.prog W = .ok () (W.setRow g (cur.toList.take (off + 0) ++ (K.enc y).toList ++ cur.toList.drop (off + 0 + (K.enc y).toList.length)).toArray) := by
      have hs : (K.enc y).size = i0.size := by rw [hk, hz1]
      simp [storeVar, sizeOf, typeInfo, hi, Value.cells, hs, hst]
    unfold Oper.wp execOp
    simp only [ho, hx, hz, Instr.storeAt, Instr.sureAddr, Sem.run_bind, Sem.run_pure, Result.andThen_ok, hsv]
    refine hK' _ _ (hK _ ?_ (but_setRow W g _))
    refine ⟨by rw [cs_length, List.length_set], .inr ⟨g, cap, _, ?_, hB, setRow_heap W g cur _ K.e _ hg, by rw [List.length_set]; exact hnc, hm, ?_, ?_⟩⟩
    · rw [List.length_set]
    · simp only [List.size_toArray, List.length_append, List.length_take, List.length_drop, Array.length_toList, hk]
      have : off + K.k ≤ cur.size := by rw [hoff]; omega
      omega
    · rw [cs_set K l j y hj, List.length_set, Nat.add_zero, hoff]
      rw [hkl]
      have ht : (cur.toList.take (l.length * K.k)) = K.cs l := htake
      rw [← ht]
      generalize cur.toList = C at *
      generalize l.length * K.k = N at *
      have hC : N ≤ C.length := by
        have := congrArg List.length ht
        rw [List.length_take] at this
        have h2 := hl1
        omega
      rw [List.take_take, Nat.min_eq_left (by omega), List.drop_take]
      have e1 : (C.take (j * K.k) ++ (K.enc y).toList).length = j * K.k + K.k := by
        rw [List.length_append, List.length_take, hkl]; omega
      rw [List.take_append, e1, List.take_of_length_le (by omega)]
/-- a row of zeros is made -/
theorem make_full {ops : Array Oper} {rest : List Oper} {o : Oper} {a : Act} {Q : Exit → Act → World → Prop} (K : Knd α) (z : α) (hz : K.enc z = K.z.cells) (w : World)
    (hg : o.guard = none) (x c : Operand) (hop : o.op = Op.makeSlice K.s x c) (B : Nat) (kl kc : IntKind) (n : Nat) (hl : a.eval x = .int kl (n : Int)) (hc : a.eval c = .int kc (n : Int)) (b2 : K.by_ * n ≤ 281474976710656) (b3 : n ≤ maxLen) (b4 : B ≤ w.heap.size)
    (hK : ∀ w', Own K w' B (.slice (some ⟨w.heap.size, 0, none⟩) n n) (List.replicate n z) → Below B w w' → wpList Try.prog ops Q rest (a.put o.dst (.slice (some ⟨w.heap.size, 0, none⟩) n n)) w') : wpList Try.prog ops Q (o :: rest) a w := by
  refine wpList_plain hg fun _ hK' => ?_
  obtain ⟨i0, hi, hz0, hz1, hz2⟩ := info_parts K.info
  obtain ⟨w', hrun, r1, r2⟩ := run_make_full (P := Try.prog) w B K.s K.e i0 K.z K.k K.hs hi hz0 hz1 kl kc n (by rw [hz2]; exact b2) b3 b4
  unfold Oper.wp
  simp [execOp, hop, hl, hc, hrun, Result.andThen]
  refine hK' _ _ (hK w' ?_ ((Below.refl _ _).grown r2 b4 (by simp)))
  unfold Own
  rw [List.length_replicate]
  have e : (madeCells K.z.cells (n * K.k)).toList = K.cs (List.replicate n z) := by
    have hs : K.z.cells.size = K.k := K.hz
    apply List.ext_getElem?
    intro t
    by_cases ht : t < n * K.k
    · have hq : t / K.k < n := by
        rw [Nat.div_lt_iff_lt_mul K.pos]; exact ht
      have hr : t % K.k < K.k := Nat.mod_lt _ K.pos
      have hd : t / K.k * K.k + t % K.k = t := by rw [Nat.mul_comm]; exact Nat.div_add_mod t K.k
      have := cs_at K (List.replicate n z) (t / K.k) z (by rw [List.getElem?_replicate, if_pos hq]) (t % K.k) hr
      rw [hd] at this
      rw [this, hz]
      simp [madeCells, ht, hs]
      rw [Array.getElem?_eq_getElem (by omega)]
      simp [hs, hr]
    · rw [List.getElem?_eq_none (by simp [size_madeCells]; omega), List.getElem?_eq_none (by rw [cs_length, List.length_replicate]; omega)]
  rw [← e]
  exact r1
/-- all of a row is put behind a row of the call's own: also where it is nil -/
theorem app_rd {ops : Array Oper} {rest : List Oper} {o : Oper} {a : Act} {Q : Exit → Act → World → Prop} (K : Knd α) (w : World)
    (hg : o.guard = none) (s x : Operand) (hop : o.op = Op.call { callee := Callee.builtin Builtin.append, args := #[s, x], argTypes := #[K.s, K.s] })
    (B : Nat) (v : Value) (l : List α) (hs : a.eval s = v) (hown : Own K w B v l) (u : Value) (news : List α) (hx : a.eval x = u) (hr : Rd K w u news)
    (b0 : l.length + news.length ≤ maxLen) (b1 : (l.length + news.length) * K.by_ ≤ 140737488355328) (b4 : B ≤ w.heap.size)
    (hK : ∀ v' w', Own K w' B v' (l ++ news) → Below B w w' → w.grownBy w' v.ownBlock → wpList Try.prog ops Q rest (a.put o.dst v') w') : wpList Try.prog ops Q (o :: rest) a w := by
  obtain ⟨sa, sc, rfl, hm, hf, hc⟩ := hr
  cases sa with
  | none =>
    have hn : news = [] := by
      have h1 := hf.nil rfl
      have h2 := hf.le
      exact List.eq_nil_of_length_eq_zero (by omega)
    subst hn
    have hsc := hf.nil rfl
    subst hsc
    refine wpList_plain hg fun _ hK' => ?_
    obtain ⟨i0, hi, hz0, hz1, hz2⟩ := info_parts K.info
    have hrun := run_append_owned_none (P := Try.prog) w B K.s o.type K.e i0 K.k K.hs hi v l.length (K.cs l) hown
    unfold Oper.wp
    simp [execOp, hop, resolve, invoke, builtin, hs, hx, hrun, Result.andThen]
    exact hK' _ _ (hK v w (by rw [List.append_nil]; exact hown) (Below.refl _ _) ⟨rfl, rfl, rfl, Nat.le_refl _, fun _ _ _ => rfl⟩)
  | some ad =>
    refine app_own K w hg s x hop B v l hs hown ad news.length sc news hx rfl (fun j y hj => ?_) b0 b1 b4 hK
    have hjl : j < news.length * K.k := by
      have := (List.getElem?_eq_some_iff.1 hj).1
      rwa [cs_length] at this
    have hp : 0 < news.length := by
      by_cases h0 : news.length = 0
      · rw [h0] at hjl; omega
      · omega
    obtain ⟨b, off, e, hb, hcell⟩ := hc hp
    obtain rfl := Option.some.inj e
    have hadd : (⟨b, off, none⟩ : Addr).add j = ⟨b, off + j, none⟩ := by unfold Addr.add; split <;> simp_all
    have hq : j / K.k < news.length := by rw [Nat.div_lt_iff_lt_mul K.pos]; exact hjl
    have hr' : j % K.k < K.k := Nat.mod_lt _ K.pos
    have hd : j / K.k * K.k + j % K.k = j := by rw [Nat.mul_comm]; exact Nat.div_add_mod j K.k
    have e1 := hcell (j / K.k) news[j / K.k] (List.getElem?_eq_getElem hq) (j % K.k) hr'
    have e2 := cs_at K news (j / K.k) news[j / K.k] (List.getElem?_eq_getElem hq) (j % K.k) hr'
    rw [hd, hj] at e2
    rw [Nat.add_assoc, hd] at e1
    rw [hadd, e1, ← e2]
end

/-- a heap as it lies, and its parts -/
structure Hq where
  v : Hv
  ps : List Pt
def Hq.p (q : Hq) : Hp := ⟨q.v.h, q.ps⟩
/-- two heaps' parts lie apart -/
def Apart (a b : Hq) : Prop := a.v.sl.ownBlock = none ∨ a.v.sl.ownBlock ≠ b.v.sl.ownBlock
/-- the slice v is a pool, all of it among the blocks from B on, each row by itself -/
structure Pool (w : World) (B : Nat) (v : Value) (Q : List Hq) : Prop where
  row : Own HK w B v (Q.map (·.v))
  part : ∀ q ∈ Q, Own TK w B q.v.sl q.ps
  apart : Q.Pairwise Apart
theorem own_kind {α : Type} {K : Knd α} {w : World} {B : Nat} {v : Value} {l : List α} (h : Own K w B v l) : ∀ g, v.ownBlock = some g → ∃ c, w.heap[g]? = some (.cells c K.e (0, 0)) := by
  intro g hg
  rcases h.2 with ⟨rfl, _⟩ | ⟨g', cap, cur, rfl, hB, hgg, _⟩
  · simp [Value.ownBlock] at hg
  · simp [Value.ownBlock] at hg
    subst hg
    exact ⟨cur, hgg⟩
/-- a row of heaps and a row of parts lie apart -/
theorem ne_kind {w : World} {B B' : Nat} {v v' : Value} {X : List Hv} {ps : List Pt} (h1 : Own HK w B v X) (h2 : Own TK w B' v' ps) {g : Nat} (hg : v.ownBlock = some g) : v'.ownBlock ≠ some g := by
  intro e
  obtain ⟨c, hc⟩ := own_kind h1 g hg
  obtain ⟨c', hc'⟩ := own_kind h2 g e
  rw [hc] at hc'
  have h46 : HK.e = TK.e := by
    have := Option.some.inj hc'
    simp only [Obj.cells.injEq] at this
    exact this.2.1
  exact absurd h46 (by decide)
theorem Pool.kept {w w' : World} {B : Nat} {v : Value} {Q : List Hq} (h : Pool w B v Q) (hb : Below w.heap.size w w') : Pool w' B v Q := ⟨h.row.kept hb, fun q hq => (h.part q hq).kept hb, h.apart⟩
theorem Pool.prd {w : World} {B : Nat} {v : Value} {Q : List Hq} (h : Pool w B v Q) : PRd w v (Q.map Hq.p) := by
  refine ⟨Q.map (·.v), Own.rd h.row, by simp, fun j x y hx hy => ?_⟩
  rw [List.getElem?_map, Option.map_eq_some_iff] at hx hy
  obtain ⟨q, hq, rfl⟩ := hx
  obtain ⟨q', hq', rfl⟩ := hy
  rw [hq] at hq'
  obtain rfl := Option.some.inj hq'
  exact ⟨rfl, Own.rd (h.part q (List.mem_of_getElem? hq))⟩
end Go.Proofs.Ytlbpapngcgnepaa.pl
