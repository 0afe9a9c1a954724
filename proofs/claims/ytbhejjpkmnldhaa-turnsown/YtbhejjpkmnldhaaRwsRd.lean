/- Rows of structs, whatever their kind: rows that are read, wherever they lie; an element that is loaded, stored; a row of zeros; append of whatever row. -/
import Derived.Test.YtbhejjpkmnldhaaRws
namespace Go.Proofs.Ytbhejjpkmnldhaa.rwr
open Go.ChangeShapes Go.WideShapes Go.ChangeAt Go.RowKit
open Go.Proofs.Ytbhejjpkmnldhaa.boxes Go.Proofs.Ytbhejjpkmnldhaa.rws

section
variable {α : Type} {K : Knd α}
/-- a slice's form -/
structure Fm (sa : Option Addr) (n sc : Nat) : Prop where
  le : n ≤ sc
  nil : sa = none → sc = 0
theorem Fm.some {b off n sc : Nat} (h : n ≤ sc) : Fm (some ⟨b, off, none⟩) n sc :=
  ⟨h, (fun e => by cases e)⟩
/-- the slice v is read as l -/
def Rd (K : Knd α) (w : World) (v : Value) (l : List α) : Prop :=
  ∃ sa sc, v = .slice sa l.length sc ∧ l.length ≤ maxLen ∧ Fm sa l.length sc ∧ (0 < l.length → ∃ b off, sa = some ⟨b, off, none⟩ ∧ b < w.heap.size ∧ ∀ j x, l[j]? = some x → ∀ i, i < K.k → w.cell? ⟨b, off + j * K.k + i, none⟩ = (K.enc x)[i]?)
theorem Own.rd {w : World} {B : Nat} {v : Value} {l : List α} (h : Own K w B v l) : Rd K w v l := by
  rcases h.forms with ⟨rfl, rfl⟩ | ⟨g, cap, rfl, hB, hg, hn, hm⟩
  · exact ⟨none, 0, rfl, Nat.zero_le _, ⟨Nat.zero_le _, fun _ => rfl⟩, fun h => by simp at h⟩
  · refine ⟨_, cap, rfl, Nat.le_trans hn hm, Fm.some hn, fun _ => ⟨g, 0, rfl, hg, fun j x hj i hi => ?_⟩⟩
    rw [Nat.zero_add]; exact h.cell hj hi
theorem Rd.below {w w' : World} {v : Value} {l : List α} (h : Rd K w v l) (hb : Below w.heap.size w w') : Rd K w' v l := by
  obtain ⟨sa, sc, rfl, hm, hn, hc⟩ := h
  refine ⟨sa, sc, rfl, hm, hn, fun hp => ?_⟩
  obtain ⟨b, off, rfl, hlt, hx⟩ := hc hp
  exact ⟨b, off, rfl, Nat.lt_of_lt_of_le hlt hb.size, fun j x hj i hi => (hb.cell (p := ⟨b, off + j * K.k + i, none⟩) hlt).trans (hx j x hj i hi)⟩
theorem Rd.form {w : World} {v : Value} {l : List α} (h : Rd K w v l) : ∃ sa sc, v = .slice sa l.length sc := by
  obtain ⟨sa, sc, rfl, _⟩ := h
  exact ⟨sa, sc, rfl⟩
theorem rd_cells [Inhabited α] {w : World} {b off : Nat} {l : List α} (hx : ∀ j x, l[j]? = some x → ∀ i, i < K.k → w.cell? ⟨b, off + j * K.k + i, none⟩ = (K.enc x)[i]?) :
    ∀ j, j < l.length → ∀ i v, ((K.enc l[j]!).toList)[i]? = some v → w.cell? ⟨b, off + j * K.k + i, none⟩ = some v := by
  intro j hj i v hv
  have hi : i < K.k := by
    have := (List.getElem?_eq_some_iff.1 hv).1
    rwa [Array.length_toList, K.hk] at this
  have hl : l[j]? = some l[j]! := by rw [List.getElem?_eq_getElem hj, List.getElem!_eq_getElem?_getD, List.getElem?_eq_getElem hj]; rfl
  rw [hx j _ hl i hi]
  simpa using hv
/-- an element of a row is loaded -/
theorem rd_load {ops : Array Oper} {rest : List Oper} {o : Oper} {a : Act} {Q : Exit → Act → World → Prop} (K : Knd α) (W : World) (hgd : o.guard = none) (x : Operand) (ho : o.op = .load K.e x)
    (b off0 : Nat) (l : List α) (hc : ∀ j y, l[j]? = some y → ∀ i, i < K.k → W.cell? ⟨b, off0 + j * K.k + i, none⟩ = (K.enc y)[i]?) (j : Nat) (off : Nat) (hx : a.eval x = .pointer (some ⟨b, off, none⟩)) (hoff : off = off0 + j * K.k) (y : α) (hy : l[j]? = some y) (F : Array Value) (hF : K.enc y = F)
    (d : TypeDesc) (hu : Try.prog.underlying K.e = some d) (hd : wideD d = true)
    (hK : wpList Try.prog ops Q rest (a.put o.dst (.agg F)) W) : wpList Try.prog ops Q (o :: rest) a W := by
  subst hF
  refine wpList_plain hgd fun _ hK' => ?_
  have hi : (Try.prog.info? K.e).map (·.size) = some (K.enc y).size := by
    obtain ⟨i0, hi, _, hz1, _⟩ := info_parts K.info
    rw [hi, K.hk]; simp [hz1]
  unfold Oper.wp execOp
  simp only [ho, hx, Instr.loadAt, Instr.sureAddr, Sem.run_bind, Sem.run_pure, Result.andThen_ok, run_load_at W b off K.e (K.enc y) d (fun i hi => by rw [hoff]; exact hc j y hy i (by rwa [K.hk] at hi)) hu hd hi]
  exact hK' _ _ hK
theorem cs_set (K : Knd α) : ∀ (l : List α) (j : Nat) (y : α), j < l.length → K.cs (l.set j y) = (K.cs l).take (j * K.k) ++ (K.enc y).toList ++ (K.cs l).drop (j * K.k + K.k)
  | [], j, y, h => by simp at h
  | x :: r, 0, y, _ => by
    have e1 : K.cs ((x :: r).set 0 y) = (K.enc y).toList ++ K.cs r := rfl
    have e2 : K.cs (x :: r) = (K.enc x).toList ++ K.cs r := rfl
    have hl : (K.enc x).toList.length = K.k := by rw [Array.length_toList, K.hk]
    rw [e1, e2, Nat.zero_mul, Nat.zero_add, List.take_zero, List.nil_append, ← hl, List.drop_left]
  | x :: r, j + 1, y, h => by
    have e1 : K.cs ((x :: r).set (j + 1) y) = (K.enc x).toList ++ K.cs (r.set j y) := rfl
    have e2 : K.cs (x :: r) = (K.enc x).toList ++ K.cs r := rfl
    have hl : (K.enc x).toList.length = K.k := by rw [Array.length_toList, K.hk]
    rw [e1, e2, cs_set K r j y (by simpa using h)]
    have t1 : (j + 1) * K.k = (K.enc x).toList.length + j * K.k := by rw [hl, Nat.add_mul]; omega
    rw [t1, List.take_length_add_append, show (K.enc x).toList.length + j * K.k + K.k = (K.enc x).toList.length + (j * K.k + K.k) by omega, List.drop_length_add_append]
    simp
/-- an element of a row is stored -/
theorem elem_store {ops : Array Oper} {rest : List Oper} {o : Oper} {a : Act} {Q : Exit → Act → World → Prop} (K : Knd α) (W : World) (hgd : o.guard = none) (x z : Operand) (ho : o.op = .store K.e x z)
    (B g n cap : Nat) (l : List α) (h : Own K W B (.slice (some ⟨g, 0, none⟩) n cap) l) (j off : Nat) (hx : a.eval x = .pointer (some ⟨g, off, none⟩)) (hoff : off = j * K.k) (hj : j < l.length) (y : α) (hz : a.eval z = .agg (K.enc y))
    (hK : ∀ W', Own K W' B (.slice (some ⟨g, 0, none⟩) n cap) (l.set j y) → But g W W' → wpList Try.prog ops Q rest (a.put o.dst undef) W') : wpList Try.prog ops Q (o :: rest) a W := by
  refine wpList_plain hgd fun _ hK' => ?_
  have hl1 := h.1
  rcases h.2 with ⟨e, _⟩ | ⟨g', cap', cur, e, hB, hg, hnc, hm, hcs, htake⟩
  · simp at e
  · simp only [Value.slice.injEq, Option.some.injEq, Addr.mk.injEq, and_true] at e
    obtain ⟨rfl, rfl, rfl⟩ := e
    obtain ⟨i0, hi, _, hz1, _⟩ := info_parts K.info
    have hk := K.hk y
    have hkl : (K.enc y).toList.length = K.k := by rw [Array.length_toList, hk]
    have hjk : j * K.k + K.k ≤ l.length * K.k := by
      have := Nat.mul_le_mul_right K.k hj
      rwa [Nat.succ_mul] at this
    have hlc : l.length * K.k ≤ cur.size := by rw [hcs]; exact Nat.mul_le_mul_right _ hnc
    have hst := run_storeCells_at (P := Try.prog) g off K.e (K.enc y).toList 0 cur W hg (by rw [Array.length_toList, hk, hoff]; omega) (fun v hv => Array.all_eq_true'.1 (K.h1 y) v (by simpa using hv))
    have hsv : (storeVar K.e ⟨g, off, none⟩ (.agg (K.enc y))).run Try.prog W = .ok () (W.setRow g (cur.toList.take (off + 0) ++ (K.enc y).toList ++ cur.toList.drop (off + 0 + (K.enc y).toList.length)).toArray) := by
      have hs : (K.enc y).size = i0.size := by rw [hk, hz1]
      simp [storeVar, sizeOf, typeInfo, hi, Value.cells, hs, hst]
    unfold Oper.wp execOp
    simp only [ho, hx, hz, Instr.storeAt, Instr.sureAddr, Sem.run_bind, Sem.run_pure, Result.andThen_ok, hsv]
    refine hK' _ _ (hK _ ?_ (but_setRow W g _))
    refine ⟨by rw [cs_length, List.length_set], .inr ⟨g, cap, _, ?_, hB, setRow_heap W g cur _ K.e _ hg, by rw [List.length_set]; exact hnc, hm, ?_, ?_⟩⟩
    · rw [List.length_set]
    · simp only [List.size_toArray, List.length_append, List.length_take, List.length_drop, Array.length_toList, hk]
      have : off + K.k ≤ cur.size := by rw [hoff]; omega
      omega
    · rw [cs_set K l j y hj, List.length_set, Nat.add_zero, hoff]
      rw [hkl]
      have ht : (cur.toList.take (l.length * K.k)) = K.cs l := htake
      rw [← ht]
      generalize cur.toList = C at *
      generalize l.length * K.k = N at *
      have hC : N ≤ C.length := by
        have := congrArg List.length ht
        rw [List.length_take] at this
        have h2 := hl1
        omega
      rw [List.take_take, Nat.min_eq_left (by omega), List.drop_take]
      have e1 : (C.take (j * K.k) ++ (K.enc y).toList).length = j * K.k + K.k := by
        rw [List.length_append, List.length_take, hkl]; omega
      rw [List.take_append, e1, List.take_of_length_le (by omega)]
/-- a row of zeros is made -/
theorem make_full {ops : Array Oper} {rest : List Oper} {o : Oper} {a : Act} {Q : Exit → Act → World → Prop} (K : Knd α) (z : α) (hz : K.enc z = K.z.cells) (w : World)
    (hg : o.guard = none) (x c : Operand) (hop : o.op = Op.makeSlice K.s x c) (B : Nat) (kl kc : IntKind) (n : Nat) (hl : a.eval x = .int kl (n : Int)) (hc : a.eval c = .int kc (n : Int)) (b2 : K.by_ * n ≤ 281474976710656) (b3 : n ≤ maxLen) (b4 : B ≤ w.heap.size)
    (hK : ∀ w', Own K w' B (.slice (some ⟨w.heap.size, 0, none⟩) n n) (List.replicate n z) → Below B w w' → wpList Try.prog ops Q rest (a.put o.dst (.slice (some ⟨w.heap.size, 0, none⟩) n n)) w') : wpList Try.prog ops Q (o :: rest) a w := by
  refine wpList_plain hg fun _ hK' => ?_
  obtain ⟨i0, hi, hz0, hz1, hz2⟩ := info_parts K.info
  obtain ⟨w', hrun, r1, r2⟩ := run_make_full (P := Try.prog) w B K.s K.e i0 K.z K.k K.hs hi hz0 hz1 kl kc n (by rw [hz2]; exact b2) b3 b4
  unfold Oper.wp
  simp [execOp, hop, hl, hc, hrun, Result.andThen]
  refine hK' _ _ (hK w' ?_ ((Below.refl _ _).grown r2 b4 (by simp)))
  unfold Own
  rw [List.length_replicate]
  have e : (madeCells K.z.cells (n * K.k)).toList = K.cs (List.replicate n z) := by
    have hs : K.z.cells.size = K.k := K.hz
    apply List.ext_getElem?
    intro t
    by_cases ht : t < n * K.k
    · have hq : t / K.k < n := by
        rw [Nat.div_lt_iff_lt_mul K.pos]; exact ht
      have hr : t % K.k < K.k := Nat.mod_lt _ K.pos
      have hd : t / K.k * K.k + t % K.k = t := by rw [Nat.mul_comm]; exact Nat.div_add_mod t K.k
      have := cs_at K (List.replicate n z) (t / K.k) z (by rw [List.getElem?_replicate, if_pos hq]) (t % K.k) hr
      rw [hd] at this
      rw [this, hz]
      simp [madeCells, ht, hs]
      rw [Array.getElem?_eq_getElem (by omega)]
      simp [hs, hr]
    · rw [List.getElem?_eq_none (by simp [size_madeCells]; omega), List.getElem?_eq_none (by rw [cs_length, List.length_replicate]; omega)]
  rw [← e]
  exact r1
/-- all of a row is put behind a row of the call's own: also where it is nil -/
theorem app_rd {ops : Array Oper} {rest : List Oper} {o : Oper} {a : Act} {Q : Exit → Act → World → Prop} (K : Knd α) (w : World)
    (hg : o.guard = none) (s x : Operand) (hop : o.op = Op.call { callee := Callee.builtin Builtin.append, args := #[s, x], argTypes := #[K.s, K.s] })
    (B : Nat) (v : Value) (l : List α) (hs : a.eval s = v) (hown : Own K w B v l) (u : Value) (news : List α) (hx : a.eval x = u) (hr : Rd K w u news)
    (b0 : l.length + news.length ≤ maxLen) (b1 : (l.length + news.length) * K.by_ ≤ 140737488355328) (b4 : B ≤ w.heap.size)
    (hK : ∀ v' w', Own K w' B v' (l ++ news) → Below B w w' → w.grownBy w' v.ownBlock → wpList Try.prog ops Q rest (a.put o.dst v') w') : wpList Try.prog ops Q (o :: rest) a w := by
  obtain ⟨sa, sc, rfl, hm, hf, hc⟩ := hr
  cases sa with
  | none =>
    have hn : news = [] := by
      have h1 := hf.nil rfl
      have h2 := hf.le
      exact List.eq_nil_of_length_eq_zero (by omega)
    subst hn
    have hsc := hf.nil rfl
    subst hsc
    refine wpList_plain hg fun _ hK' => ?_
    obtain ⟨i0, hi, hz0, hz1, hz2⟩ := info_parts K.info
    have hrun := run_append_owned_none (P := Try.prog) w B K.s o.type K.e i0 K.k K.hs hi v l.length (K.cs l) hown
    unfold Oper.wp
    simp [execOp, hop, resolve, invoke, builtin, hs, hx, hrun, Result.andThen]
    exact hK' _ _ (hK v w (by rw [List.append_nil]; exact hown) (Below.refl _ _) ⟨rfl, rfl, rfl, Nat.le_refl _, fun _ _ _ => rfl⟩)
  | some ad =>
    refine app_own K w hg s x hop B v l hs hown ad news.length sc news hx rfl (fun j y hj => ?_) b0 b1 b4 hK
    have hjl : j < news.length * K.k := by
      have := (List.getElem?_eq_some_iff.1 hj).1
      rwa [cs_length] at this
    have hp : 0 < news.length := by
      by_cases h0 : news.length = 0
      · rw [h0] at hjl; omega
      · omega
    obtain ⟨b, off, e, hb, hcell⟩ := hc hp
    obtain rfl := Option.some.inj e
    have hadd : (⟨b, off, none⟩ : Addr).add j = ⟨b, off + j, none⟩ := by unfold Addr.add; split <;> simp_all
    have hq : j / K.k < news.length := by rw [Nat.div_lt_iff_lt_mul K.pos]; exact hjl
    have hr' : j % K.k < K.k := Nat.mod_lt _ K.pos
    have hd : j / K.k * K.k + j % K.k = j := by rw [Nat.mul_comm]; exact Nat.div_add_mod j K.k
    have e1 := hcell (j / K.k) news[j / K.k] (List.getElem?_eq_getElem hq) (j % K.k) hr'
    have e2 := cs_at K news (j / K.k) news[j / K.k] (List.getElem?_eq_getElem hq) (j % K.k) hr'
    rw [hd, hj] at e2
    rw [Nat.add_assoc, hd] at e1
    rw [hadd, e1, ← e2]
theorem own_kind {α : Type} {K : Knd α} {w : World} {B : Nat} {v : Value} {l : List α} (h : Own K w B v l) : ∀ g, v.ownBlock = some g → ∃ c, w.heap[g]? = some (.cells c K.e (0, 0)) := by
  intro g hg
  rcases h.2 with ⟨rfl, _⟩ | ⟨g', cap, cur, rfl, hB, hgg, _⟩
  · simp [Value.ownBlock] at hg
  · simp [Value.ownBlock] at hg
    subst hg
    exact ⟨cur, hgg⟩
theorem cs_put (K : Knd α) : ∀ (l : List α) (j i : Nat) (x y : α) (u : Value), l[j]? = some x → i < K.k → (K.enc y) = (K.enc x).setIfInBounds i u → (K.cs l).set (j * K.k + i) u = K.cs (l.set j y)
  | [], j, i, x, y, u, h, _, _ => by simp at h
  | z :: r, 0, i, x, y, u, h, hi, he => by
    simp at h; subst h
    have e1 : K.cs ((z :: r).set 0 y) = (K.enc y).toList ++ K.cs r := rfl
    have e2 : K.cs (z :: r) = (K.enc z).toList ++ K.cs r := rfl
    rw [e1, e2, Nat.zero_mul, Nat.zero_add, List.set_append_left _ _ (by rw [Array.length_toList, K.hk]; exact hi), he]
    simp
  | z :: r, j + 1, i, x, y, u, h, hi, he => by
    have e1 : K.cs ((z :: r).set (j + 1) y) = (K.enc z).toList ++ K.cs (r.set j y) := rfl
    have e2 : K.cs (z :: r) = (K.enc z).toList ++ K.cs r := rfl
    have hl : (K.enc z).toList.length = K.k := by rw [Array.length_toList, K.hk]
    rw [e1, e2, List.set_append_right _ _ (by rw [hl, Nat.add_mul]; omega), hl]
    have : (j + 1) * K.k + i - K.k = j * K.k + i := by rw [Nat.add_mul]; omega
    rw [this, cs_put K r j i x y u (by simpa using h) hi he]
/-- one cell of an element is stored -/
theorem Own.put {w : World} {B g n cap : Nat} {l : List α} (h : Own K w B (.slice (some ⟨g, 0, none⟩) n cap) l) (j i : Nat) (x y : α) (u : Value) (hx : l[j]? = some x) (hi : i < K.k) (he : (K.enc y) = (K.enc x).setIfInBounds i u) :
    Own K (w.setCell ⟨g, j * K.k + i, none⟩ u) B (.slice (some ⟨g, 0, none⟩) n cap) (l.set j y) ∧ w.frozen? ⟨g, j * K.k + i, none⟩ = false ∧ B ≤ g := by
  rcases h.2 with ⟨e, _⟩ | ⟨g', cap', cur, e, hB, hg, hnc, hm, hcs, htake⟩
  · simp at e
  · simp only [Value.slice.injEq, Option.some.injEq, Addr.mk.injEq, and_true] at e
    obtain ⟨rfl, rfl, rfl⟩ := e
    have hb : Blk w g cur K.e := hg
    refine ⟨⟨by rw [cs_length, List.length_set], .inr ⟨g, cap, _, by rw [List.length_set], hB, hb.setCell _ _, by rw [List.length_set]; exact hnc, hm, by simpa using hcs, ?_⟩⟩, hb.free _, hB⟩
    rw [List.length_set, ← cs_put K l j i x y u hx hi he, ← htake]
    simp only [Array.toList_setIfInBounds]
    rw [List.take_set]
end
end Go.Proofs.Ytbhejjpkmnldhaa.rwr
