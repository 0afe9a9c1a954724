/- Queues of the call's own that are written over; what Put and Round hand back, whatever came in. -/
import Derived.Test.YtbhejjpkmnldhaaTuPut
import Derived.Test.YtbhejjpkmnldhaaTuSame
import Derived.Test.YtbhejjpkmnldhaaTuRound
namespace Go.Proofs.Ytbhejjpkmnldhaa.tu
open Go.ChangeShapes Go.WideShapes Go.ChangeAt Go.RowKit Go.BigFrame
open Go.Proofs.Ytbhejjpkmnldhaa Go.Proofs.Ytbhejjpkmnldhaa.boxes Go.Proofs.Ytbhejjpkmnldhaa.rwr Go.Proofs.Ytbhejjpkmnldhaa.rwat
open Go.Proofs.Ytbhejjpkmnldhaa.rws (Knd Own)

/-- the queues L, laid as Y, all of it among the blocks from B on -/
structure TY (u : World) (B : Nat) (v : Value) (Y : List Qv) (L : List Qu) : Prop where
  row : Own QK u B v Y
  len : Y.length = L.length
  each : ∀ (j : Nat) y q, Y[j]? = some y → L[j]? = some q → y.sh = q.sh ∧ y.sv = q.sv ∧ FN u B y.sl q.l
theorem TY.nil (u : World) (B : Nat) : TY u B (.slice none 0 0) [] [] := ⟨rws.Own.nil _ _ _, rfl, fun j y q h => by simp at h⟩
theorem TY.trd {u : World} {B : Nat} {v : Value} {Y : List Qv} {L : List Qu} (h : TY u B v Y L) : TRd u v L :=
  ⟨Y, Own.rd h.row, h.len, fun j y q hy hq => ⟨(h.each j y q hy hq).1, (h.each j y q hy hq).2.1, (h.each j y q hy hq).2.2.rd⟩⟩
theorem TY.kept {u u' : World} {B : Nat} {v : Value} {Y : List Qv} {L : List Qu} (h : TY u B v Y L) (b : Below u.heap.size u u') : TY u' B v Y L :=
  ⟨h.row.kept b, h.len, fun j y q hy hq => ⟨(h.each j y q hy hq).1, (h.each j y q hy hq).2.1, (h.each j y q hy hq).2.2.kept b⟩⟩
theorem TY.but {u u' : World} {B g : Nat} {v : Value} {Y : List Qv} {L : List Qu} {F : Array Value} {t : TypeId} (h : TY u B v Y L) (b : But g u u') (hv : v.ownBlock ≠ some g) (k : Blk u g F t) (ht : t ≠ NK.e) : TY u' B v Y L :=
  ⟨h.row.but b hv, h.len, fun j y q hy hq => ⟨(h.each j y q hy hq).1, (h.each j y q hy hq).2.1, (h.each j y q hy hq).2.2.but b (blk_ne (h.each j y q hy hq).2.2.1 k ht)⟩⟩
theorem TY.more {u u' : World} {B : Nat} {v v' : Value} {Y : List Qv} {L : List Qu} {x : Qv} {q : Qu} (h : TY u B v Y L) (h1 : x.sh = q.sh) (h2 : x.sv = q.sv) (h3 : FN u B x.sl q.l) (g : u.grownBy u' v.ownBlock) (o : Own QK u' B v' (Y ++ [x])) : TY u' B v' (Y ++ [x]) (L ++ [q]) := by
  refine ⟨o, by simp [h.len], fun j y p hy hp => ?_⟩
  by_cases hj : j < Y.length
  · rw [List.getElem?_append_left hj] at hy
    rw [List.getElem?_append_left (by rw [← h.len]; exact hj)] at hp
    obtain ⟨a, b, c⟩ := h.each j y p hy hp
    exact ⟨a, b, c.grown g (kinds_ne c.1 h.row (by decide))⟩
  · have hj2 : j = Y.length := by
      have := (List.getElem?_eq_some_iff.1 hy).1
      simp at this
      omega
    subst hj2
    rw [List.getElem?_append_right (Nat.le_refl _)] at hy
    rw [List.getElem?_append_right (by rw [h.len]; exact Nat.le_refl _), h.len] at hp
    simp at hy hp
    subst hy hp
    exact ⟨h1, h2, h3.grown g (kinds_ne h3.1 h.row (by decide))⟩
/-- a row of sizes that may be written all over -/
def WrI (B : Nat) (u : World) (v : Value) : Prop := v = .slice none 0 0 ∨ ∃ g n cap cur, v = .slice (some ⟨g, 0, none⟩) n cap ∧ n ≤ cap ∧ B ≤ g ∧ Blk u g cur NK.e ∧ cur.size = cap ∧ cap ≤ maxLen ∧ ∀ i, i < cur.size → ∃ z : Int, cur[i]? = some (.int .i64 z)
theorem fn_wr {w : World} {B : Nat} {v : Value} {l : List Int} (h : FN w B v l) : WrI B w v := by
  rcases h.1.2 with ⟨rfl, _⟩ | ⟨g, cap, cur, rfl, hB, hg, hnc, hm, hcs, _⟩
  · exact Or.inl rfl
  · have e : cap * NK.k = cap := Nat.mul_one cap
    exact Or.inr ⟨g, _, cap, cur, rfl, hnc, hB, hg, by rw [← e]; exact hcs, hm, h.2 g cur _ _ rfl hg⟩
theorem WrI.mono {B B' : Nat} {u : World} {v : Value} (h : WrI B u v) (hb : B' ≤ B) : WrI B' u v := by
  rcases h with h | ⟨g, n, cap, cur, a, b, c, d⟩
  · exact Or.inl h
  · exact Or.inr ⟨g, n, cap, cur, a, b, Nat.le_trans hb c, d⟩
theorem WrI.below {B : Nat} {u u' : World} {v : Value} (h : WrI B u v) (hb : Below u.heap.size u u') : WrI B u' v := by
  rcases h with h | ⟨g, n, cap, cur, a, b, c, d, e⟩
  · exact Or.inl h
  · exact Or.inr ⟨g, n, cap, cur, a, b, c, d.below hb d.lt, e⟩
theorem WrI.but {B g : Nat} {u u' : World} {v : Value} (h : WrI B u v) (hb : But g u u') (hne : v.ownBlock ≠ some g) : WrI B u' v := by
  rcases h with h | ⟨g', n, cap, cur, rfl, b, c, d, e⟩
  · exact Or.inl h
  · refine Or.inr ⟨g', n, cap, cur, rfl, b, c, hb.blk d (fun e => hne ?_), e⟩
    subst e; rfl
theorem WrI.store {B g : Nat} {u u' : World} {v : Value} {cur cur' : Array Value} (h : WrI B u v) (k : Blk u g cur NK.e) (k' : Blk u' g cur' NK.e) (hs : cur'.size = cur.size) (hi : ∀ i, i < cur'.size → ∃ z : Int, cur'[i]? = some (.int .i64 z)) (bu : But g u u') : WrI B u' v := by
  rcases h with e | ⟨g', n, cap, c, e, h1, h2, h3, h4, h5, h6⟩
  · exact Or.inl e
  · by_cases hgg : g' = g
    · subst hgg
      have e2 : cur = c := by
        unfold Blk at k h3
        rw [k] at h3
        have := Option.some.inj h3
        simp only [Obj.cells.injEq] at this
        exact this.1
      exact Or.inr ⟨g', n, cap, cur', e, h1, h2, k', by rw [hs, e2, h4], h5, hi⟩
    · exact Or.inr ⟨g', n, cap, c, e, h1, h2, bu.blk h3 hgg, h4, h5, h6⟩
theorem WrI.ne {B B' g : Nat} {u : World} {v r : Value} {X : List Qv} (h : WrI B u v) (o : Own QK u B' r X) (hg : r.ownBlock = some g) : v.ownBlock ≠ some g := by
  rcases h with rfl | ⟨g', n, cap, cur, rfl, _, _, d, _⟩
  · simp [Value.ownBlock]
  · intro e
    obtain ⟨c, hc⟩ := own_kind o g hg
    obtain rfl : g' = g := by simpa [Value.ownBlock] using e
    have d' : u.heap[g']? = some (.cells cur NK.e (0, 0)) := d
    rw [hc] at d'
    simp only [Option.some.injEq, Obj.cells.injEq] at d'
    exact absurd d'.2.1 (by decide)
/-- a row of n queues that may be written all over -/
def WQ (u : World) (B : Nat) (v : Value) (n : Nat) : Prop := ∃ X : List Qv, Own QK u B v X ∧ X.length = n ∧ ∀ x ∈ X, WrI B u x.sl
theorem to_wq {u : World} {B : Nat} {v : Value} {L : List Qu} (h : TO u B v L) : WQ u B v L.length := by
  obtain ⟨Y, h1, h2, h3⟩ := h
  refine ⟨Y, h1, h2, fun x hx => ?_⟩
  obtain ⟨j, hj, rfl⟩ := List.mem_iff_getElem.1 hx
  exact fn_wr (h3 j _ _ (List.getElem?_eq_getElem hj) (List.getElem?_eq_getElem (by omega))).2.2
theorem WQ.mono {u : World} {B B' : Nat} {v : Value} {n : Nat} (h : WQ u B v n) (hb : B' ≤ B) : WQ u B' v n := by
  obtain ⟨X, h1, h2, h3⟩ := h
  exact ⟨X, h1.mono hb, h2, fun x hx => (h3 x hx).mono hb⟩
theorem WQ.kept {u u' : World} {B : Nat} {v : Value} {n : Nat} (h : WQ u B v n) (hb : Below u.heap.size u u') : WQ u' B v n := by
  obtain ⟨X, h1, h2, h3⟩ := h
  exact ⟨X, h1.kept hb, h2, fun x hx => (h3 x hx).below hb⟩
theorem WQ.store {u u' : World} {B g n : Nat} {v : Value} {cur cur' : Array Value} (h : WQ u B v n) (k : Blk u g cur NK.e) (k' : Blk u' g cur' NK.e) (hs : cur'.size = cur.size) (hi : ∀ i, i < cur'.size → ∃ z : Int, cur'[i]? = some (.int .i64 z)) (bu : But g u u') : WQ u' B v n := by
  obtain ⟨X, h1, h2, h3⟩ := h
  exact ⟨X, h1.but bu (blk_ne h1 k (by decide)), h2, fun x hx => (h3 x hx).store k k' hs hi bu⟩
/-- while x is written over: y comes behind it, where c is 0 -/
structure IQ (w0 u : World) (x : Value) (nx c : Nat) (y : Value) (ny : Nat) : Prop where
  bel : Below w0.heap.size w0 u
  one : WQ u w0.heap.size x nx
  two : c = 0 → WQ u w0.heap.size y ny ∧ ∀ g, x.ownBlock = some g → y.ownBlock ≠ some g
theorem IQ.kept {w0 u u' : World} {x y : Value} {nx ny c : Nat} (h : IQ w0 u x nx c y ny) (hb : Below u.heap.size u u') : IQ w0 u' x nx c y ny :=
  ⟨h.bel.trans (hb.mono h.bel.size), h.one.kept hb, fun e => ⟨(h.two e).1.kept hb, (h.two e).2⟩⟩
theorem IQ.store {w0 u u' : World} {x y : Value} {nx ny c g : Nat} {cur cur' : Array Value} (h : IQ w0 u x nx c y ny) (hg : w0.heap.size ≤ g) (k : Blk u g cur NK.e) (k' : Blk u' g cur' NK.e) (hs : cur'.size = cur.size) (hi : ∀ i, i < cur'.size → ∃ z : Int, cur'[i]? = some (.int .i64 z)) (bu : But g u u') : IQ w0 u' x nx c y ny :=
  ⟨bu.below h.bel hg, h.one.store k k' hs hi bu, fun e => ⟨(h.two e).1.store k k' hs hi bu, (h.two e).2⟩⟩
theorem ints_set {cur : Array Value} (hi : ∀ i, i < cur.size → ∃ z : Int, cur[i]? = some (.int .i64 z)) (j : Nat) (z : Int) : ∀ i, i < (cur.setIfInBounds j (.int .i64 z)).size → ∃ y : Int, (cur.setIfInBounds j (.int .i64 z))[i]? = some (.int .i64 y) := fun i h => by
  rw [Array.size_setIfInBounds] at h
  by_cases e : j = i
  · subst e
    exact ⟨z, Array.getElem?_setIfInBounds_self_of_lt h⟩
  · obtain ⟨y, hy⟩ := hi i h
    exact ⟨y, by rw [Array.getElem?_setIfInBounds_ne e]; exact hy⟩
/-- a share is written -/
theorem IQ.share {w0 u : World} {y : Value} {g nx cx ny c j : Nat} {X : List Qv} {q : Qv} (h : IQ w0 u (.slice (some ⟨g, 0, none⟩) nx cx) nx c y ny) (ow : Own QK u w0.heap.size (.slice (some ⟨g, 0, none⟩) nx cx) X) (hl : X.length = nx) (hp : ∀ x ∈ X, WrI w0.heap.size u x.sl) (hq : X[j]? = some q) (z : Int) :
    IQ w0 (u.setCell ⟨g, j * 3, none⟩ (.int .i64 z)) (.slice (some ⟨g, 0, none⟩) nx cx) nx c y ny ∧ u.frozen? ⟨g, j * 3, none⟩ = false ∧ u.cell? ⟨g, j * 3, none⟩ = some (.int .i64 q.sh) := by
  have bu := but_setCell u g (j * 3) (.int .i64 z)
  obtain ⟨o2, fz, hB⟩ := Own.put ow j 0 q ⟨z, q.sv, q.sa, q.sn, q.sc⟩ (.int .i64 z) hq (by decide) rfl
  have cc : u.cell? ⟨g, j * QK.k + 0, none⟩ = (QK.enc q)[0]? := ow.cell hq (i := 0) (by decide)
  refine ⟨⟨bu.below h.bel hB, ⟨X.set j ⟨z, q.sv, q.sa, q.sn, q.sc⟩, o2, by rw [List.length_set]; exact hl, fun x hx => ?_⟩, fun e => ?_⟩, fz, cc⟩
  · rcases List.mem_or_eq_of_mem_set hx with hx | rfl
    · exact (hp x hx).but bu ((hp x hx).ne ow rfl)
    · have hm := hp q (List.mem_of_getElem? hq)
      exact WrI.but (v := q.sl) hm bu (hm.ne ow rfl)
  · obtain ⟨⟨Y, y1, y2, y3⟩, ap⟩ := h.two e
    exact ⟨⟨Y, y1.but bu (ap g rfl), y2, fun x hx => (y3 x hx).but bu ((y3 x hx).ne ow rfl)⟩, ap⟩
theorem wr_slice {B : Nat} {u : World} {xa : Option Addr} {xn xc : Nat} (h : WrI B u (.slice xa xn xc)) : ∀ W : World, (Instr.slice 39 (.slice xa xn xc) none (some (.int .i64 (xc : Int))) none).run Try.prog W = .ok (.slice xa xc xc) W := fun W => by
  rw [sl_hi xa xn xc xc (Nat.le_refl _) W]
  unfold sliced
  rcases h with e | ⟨g, n, cap, cur, e, _⟩
  · simp only [Value.slice.injEq] at e
    obtain ⟨rfl, rfl, rfl⟩ := e
    rfl
  · simp only [Value.slice.injEq] at e
    obtain ⟨rfl, rfl, rfl⟩ := e
    have hadd : (⟨g, 0, none⟩ : Addr).add (0 * 1) = ⟨g, 0, none⟩ := by unfold Addr.add; split <;> simp_all
    split
    · rfl
    · simp [hadd]
/-- whatever is put -/
theorem put_all (v : Value) (L : List Qu) (k m : Int) (w : World) (h : TRd w v L) : Calls Try.prog 15 #[v, .int .i64 k, .int .i64 m] w fun e w' => ∃ v' c n, e = .returned (.tuple #[v', .int .i64 c]) ∧ (∃ L', TO w' w.heap.size v' L' ∧ L'.length = n) ∧ Below w.heap.size w w' := by
  by_cases hc : chk L = 0
  rotate_left
  · refine (put_chk v L k m w h hc).mono ?_
    rintro e w' ⟨rfl, z⟩
    exact ⟨_, _, _, rfl, ⟨[], TO.nil _ _, rfl⟩, z⟩
  by_cases hk : k < 0 ∨ (L.length : Int) ≤ k
  · refine (put_none v L k m w h hc hk).mono ?_
    rintro e w' ⟨rfl, z⟩
    exact ⟨_, _, _, rfl, ⟨[], TO.nil _ _, rfl⟩, z⟩
  obtain ⟨j, rfl⟩ : ∃ j : Nat, k = (j : Int) := ⟨k.toNat, by omega⟩
  have hj : j < L.length := by omega
  cases hm : wsz m with
  | true =>
    refine (put_arg v L j m w h hc hj hm).mono ?_
    rintro e w' ⟨rfl, z⟩
    exact ⟨_, _, _, rfl, ⟨[], TO.nil _ _, rfl⟩, z⟩
  | false =>
    obtain ⟨q, hq⟩ : ∃ q, L[j]? = some q := ⟨_, List.getElem?_eq_getElem hj⟩
    have f := ((chk_zero.1 hc).2 q (List.mem_of_getElem? hq)).len
    by_cases hf : q.l.length = 200
    · refine (put_full v L j q m w h hc hq hm hf).mono ?_
      rintro e w' ⟨rfl, z⟩
      exact ⟨_, _, _, rfl, ⟨[], TO.nil _ _, rfl⟩, z⟩
    · refine (put_ok v L j q m w h hc hq hm (by omega)).mono ?_
      rintro e w' ⟨v', rfl, T, z⟩
      exact ⟨_, _, _, rfl, ⟨_, T, rfl⟩, z⟩
theorem round_all (v : Value) (L : List Qu) (w : World) (h : TRd w v L) : Calls Try.prog 9 #[v] w fun e w' => ∃ v' z' c n, e = .returned (.tuple #[v', z', .int .i64 c]) ∧ (∃ L', TO w' w.heap.size v' L' ∧ L'.length = n) ∧ Below w.heap.size w w' := by
  by_cases hc : chk L = 0
  · refine (round_ok v L w h hc).mono ?_
    rintro e w' ⟨v', z', rfl, T, _, z⟩
    exact ⟨_, _, _, _, rfl, ⟨_, T, rfl⟩, z⟩
  · refine (round_bad v L w h hc).mono ?_
    rintro e w' ⟨rfl, z⟩
    exact ⟨_, _, _, _, rfl, ⟨[], TO.nil _ _, rfl⟩, z⟩
end Go.Proofs.Ytbhejjpkmnldhaa.tu
