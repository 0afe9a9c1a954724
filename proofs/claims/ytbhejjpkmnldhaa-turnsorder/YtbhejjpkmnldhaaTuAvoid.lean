/- Queues that lie apart from two rows that are written; one cell of a row of numbers or bools that is written; rows of zeros. -/
import Derived.Test.YtbhejjpkmnldhaaTuRound
import Derived.Test.YtbhejjpkmnldhaaTuMath2
namespace Go.Proofs.Ytbhejjpkmnldhaa.tu
open Go.ChangeShapes Go.WideShapes Go.ChangeAt Go.RowKit Go.BigFrame
open Go.Proofs.Ytbhejjpkmnldhaa Go.Proofs.Ytbhejjpkmnldhaa.boxes Go.Proofs.Ytbhejjpkmnldhaa.rwr Go.Proofs.Ytbhejjpkmnldhaa.rwat
open Go.Proofs.Ytbhejjpkmnldhaa.rws (Knd Own cs_at cs_length)

def BK : Knd Bool := { e := 4, s := 46, k := 1, by_ := 1, z := .bool false, enc := fun b => #[.bool b], hk := fun _ => rfl, h1 := fun b => by simp [Value.oneCell'], pos := by decide, hz := rfl, hs := Try.underlying46, info := by kernel_rfl }
theorem rd_but {α : Type} {K : Knd α} {g : Nat} {u u' : World} {v : Value} {l : List α} (h : Rd K u v l) (b : But g u u') (hne : 0 < l.length → v.ownBlock ≠ some g) : Rd K u' v l := by
  obtain ⟨sa, sc, rfl, hm, hf, hc⟩ := h
  refine ⟨sa, sc, rfl, hm, hf, fun hp => ?_⟩
  obtain ⟨b1, off, rfl, hlt, hx⟩ := hc hp
  have hn : b1 ≠ g := fun e => hne hp (by rw [e]; rfl)
  refine ⟨b1, off, rfl, by rw [b.size]; exact hlt, fun j x hj i hi => ?_⟩
  have hb := b.block b1 hn
  have e := hx j x hj i hi
  rw [← e]
  exact World.cell?_of_block (a := ⟨b1, off + j * K.k + i, none⟩) hb
theorem rd_far {α : Type} {K : Knd α} {g : Nat} {u : World} {v : Value} {l : List α} (h : Rd K u v l) (hg : u.heap.size ≤ g) : 0 < l.length → v.ownBlock ≠ some g := fun hp e => by
  obtain ⟨sa, sc, rfl, hm, hf, hc⟩ := h
  obtain ⟨b1, off, rfl, hlt, hx⟩ := hc hp
  have : b1 = g := by simpa [Value.ownBlock] using e
  omega
/-- the slice v is read as the queues L; nothing of it lies in the blocks g and k -/
def TAv (g k : Nat) (u : World) (v : Value) (L : List Qu) : Prop := ∃ X : List Qv, Rd QK u v X ∧ X.length = L.length ∧ (0 < X.length → v.ownBlock ≠ some g ∧ v.ownBlock ≠ some k) ∧ ∀ (j : Nat) x q, X[j]? = some x → L[j]? = some q → x.sh = q.sh ∧ x.sv = q.sv ∧ Rd NK u x.sl q.l ∧ (0 < q.l.length → x.sl.ownBlock ≠ some g ∧ x.sl.ownBlock ≠ some k)
theorem TAv.trd {g k : Nat} {u : World} {v : Value} {L : List Qu} (h : TAv g k u v L) : TRd u v L := by
  obtain ⟨X, h1, h2, _, h3⟩ := h
  exact ⟨X, h1, h2, fun j x q hx hq => ⟨(h3 j x q hx hq).1, (h3 j x q hx hq).2.1, (h3 j x q hx hq).2.2.1⟩⟩
theorem TAv.below {g k : Nat} {u u' : World} {v : Value} {L : List Qu} (h : TAv g k u v L) (hb : Below u.heap.size u u') : TAv g k u' v L := by
  obtain ⟨X, h1, h2, h4, h3⟩ := h
  exact ⟨X, h1.below hb, h2, h4, fun j x q hx hq => ⟨(h3 j x q hx hq).1, (h3 j x q hx hq).2.1, (h3 j x q hx hq).2.2.1.below hb, (h3 j x q hx hq).2.2.2⟩⟩
theorem TAv.but {g k : Nat} {u u' : World} {v : Value} {L : List Qu} (h : TAv g k u v L) (hb : But g u u') : TAv g k u' v L := by
  obtain ⟨X, h1, h2, h4, h3⟩ := h
  exact ⟨X, rd_but h1 hb fun hp => (h4 hp).1, h2, h4, fun j x q hx hq => ⟨(h3 j x q hx hq).1, (h3 j x q hx hq).2.1, rd_but (h3 j x q hx hq).2.2.1 hb fun hp => ((h3 j x q hx hq).2.2.2 hp).1, (h3 j x q hx hq).2.2.2⟩⟩
theorem TAv.swap {g k : Nat} {u : World} {v : Value} {L : List Qu} (h : TAv g k u v L) : TAv k g u v L := by
  obtain ⟨X, h1, h2, h4, h3⟩ := h
  exact ⟨X, h1, h2, fun hp => (h4 hp).symm, fun j x q hx hq => ⟨(h3 j x q hx hq).1, (h3 j x q hx hq).2.1, (h3 j x q hx hq).2.2.1, fun hp => ((h3 j x q hx hq).2.2.2 hp).symm⟩⟩
theorem TAv.of_trd {g k : Nat} {u : World} {v : Value} {L : List Qu} (h : TRd u v L) (hg : u.heap.size ≤ g) (hk : u.heap.size ≤ k) : TAv g k u v L := by
  obtain ⟨X, h1, h2, h3⟩ := h
  exact ⟨X, h1, h2, fun hp => ⟨rd_far h1 hg hp, rd_far h1 hk hp⟩, fun j x q hx hq => ⟨(h3 j x q hx hq).1, (h3 j x q hx hq).2.1, (h3 j x q hx hq).2.2, fun hp => ⟨rd_far (h3 j x q hx hq).2.2 hg hp, rd_far (h3 j x q hx hq).2.2 hk hp⟩⟩⟩
theorem TAv.of_to {g k B : Nat} {u : World} {v : Value} {L : List Qu} (h : TO u B v L) (hg : g < B) (hk : k < B) : TAv g k u v L := by
  obtain ⟨X, h1, h2, h3⟩ := h
  exact ⟨X, Own.rd h1, h2, fun _ => ⟨own_ne h1 hg, own_ne h1 hk⟩, fun j x q hx hq => ⟨(h3 j x q hx hq).1, (h3 j x q hx hq).2.1, (h3 j x q hx hq).2.2.rd, fun _ => ⟨own_ne (h3 j x q hx hq).2.2.1 hg, own_ne (h3 j x q hx hq).2.2.1 hk⟩⟩⟩

/-- a row of one-cell elements: one is written -/
theorem put1 {α : Type} {K : Knd α} (hk : K.k = 1) {w : World} {B g n cap : Nat} {l : List α} (h : Own K w B (.slice (some ⟨g, 0, none⟩) n cap) l) {i : Nat} {x : α} (hx : l[i]? = some x) (y : α) (u : Value) (hy : K.enc y = #[u]) :
    Own K (w.setCell ⟨g, i, none⟩ u) B (.slice (some ⟨g, 0, none⟩) n cap) (l.set i y) ∧ w.frozen? ⟨g, i, none⟩ = false ∧ w.cell? ⟨g, i, none⟩ = (K.enc x)[0]? := by
  have hs := K.hk x
  have e : K.enc y = (K.enc x).setIfInBounds 0 u := by
    rw [hy]
    apply Array.ext
    · rw [Array.size_setIfInBounds, hs, hk]; rfl
    · intro j h1 h2
      have : j = 0 := by simp at h1; omega
      subst this
      simp
  obtain ⟨a, b, _⟩ := Own.put h i 0 x y u hx (by rw [hk]; decide) e
  have e2 : i * K.k + 0 = i := by rw [hk]; omega
  rw [e2] at a b
  have c := h.cell hx (i := 0) (by rw [hk]; decide)
  rw [e2] at c
  exact ⟨a, b, c⟩
/-- of D the first i are as in A, the rest as in C -/
def Upto (A C D : List Bool) (i : Nat) : Prop := D.length = A.length ∧ (∀ j, j < i → D[j]? = A[j]?) ∧ ∀ j, i ≤ j → D[j]? = C[j]?
theorem upto_zero {A C : List Bool} (h : C.length = A.length) : Upto A C C 0 := ⟨h, fun j hj => absurd hj (by omega), fun _ _ => rfl⟩
theorem upto_next {A C D : List Bool} {i : Nat} {b : Bool} (h : Upto A C D i) (hb : A[i]? = some b) : Upto A C (D.set i b) (i + 1) := by
  obtain ⟨h1, h2, h3⟩ := h
  have hi := (List.getElem?_eq_some_iff.1 hb).1
  refine ⟨by rw [List.length_set]; exact h1, fun j hj => ?_, fun j hj => ?_⟩
  · by_cases e : j = i
    · subst e; rw [List.getElem?_set_self (by omega), hb]
    · rw [List.getElem?_set_ne (fun e2 => e e2.symm)]; exact h2 j (by omega)
  · rw [List.getElem?_set_ne (by omega)]; exact h3 j (by omega)
theorem upto_done {A C D : List Bool} {i : Nat} (h : Upto A C D i) (hi : i = A.length) : D = A := by
  obtain ⟨h1, h2, _⟩ := h
  refine List.ext_getElem? fun j => ?_
  by_cases hj : j < i
  · exact h2 j hj
  · rw [List.getElem?_eq_none (by omega), List.getElem?_eq_none (by omega)]
theorem upto_at {A C D : List Bool} {i : Nat} (h : Upto A C D i) : D[i]? = C[i]? := h.2.2 i (Nat.le_refl _)
/-- a row of zeros is made -/
theorem make_run {α : Type} (K : Knd α) (z : α) (hz : K.enc z = K.z.cells) (w : World) (B n : Nat) (b2 : K.by_ * n ≤ 281474976710656) (b3 : n ≤ maxLen) (b4 : B ≤ w.heap.size) :
    ∃ w', (Instr.makeSlice K.s (.int .i64 (n : Int)) (.int .i64 (n : Int))).run Try.prog w = .ok (.slice (some ⟨w.heap.size, 0, none⟩) n n) w' ∧ Own K w' B (.slice (some ⟨w.heap.size, 0, none⟩) n n) (List.replicate n z) ∧ Below B w w' := by
  obtain ⟨i0, hi, hz0, hz1, hz2⟩ := info_parts K.info
  obtain ⟨w', hrun, r1, r2⟩ := run_make_full (P := Try.prog) w B K.s K.e i0 K.z K.k K.hs hi hz0 hz1 .i64 .i64 n (by rw [hz2]; exact b2) b3 b4
  refine ⟨w', hrun, ?_, (Below.refl _ _).grown r2 b4 (by simp)⟩
  unfold Own
  rw [List.length_replicate]
  have e : (madeCells K.z.cells (n * K.k)).toList = K.cs (List.replicate n z) := by
    have hs : K.z.cells.size = K.k := K.hz
    apply List.ext_getElem?
    intro t
    by_cases ht : t < n * K.k
    · have hq : t / K.k < n := by
        rw [Nat.div_lt_iff_lt_mul K.pos]; exact ht
      have hr : t % K.k < K.k := Nat.mod_lt _ K.pos
      have hd : t / K.k * K.k + t % K.k = t := by rw [Nat.mul_comm]; exact Nat.div_add_mod t K.k
      have := cs_at K (List.replicate n z) (t / K.k) z (by rw [List.getElem?_replicate, if_pos hq]) (t % K.k) hr
      rw [hd] at this
      rw [this, hz]
      simp [madeCells, ht, hs]
      rw [Array.getElem?_eq_getElem (by omega)]
      simp [hs, hr]
    · rw [List.getElem?_eq_none (by simp [size_madeCells]; omega), List.getElem?_eq_none (by rw [cs_length, List.length_replicate]; omega)]
  rw [← e]
  exact r1
theorem results_tmp4 {fn : Func} {t u v x : Tmp} (h : fn.results = #[.tmp t, .tmp u, .tmp v, .tmp x]) (tmps : Array Value) (P : Program) (w : World) :
    (results fn tmps).run P w = .ok (.tuple #[tmps.getD t undef, tmps.getD u undef, tmps.getD v undef, tmps.getD x undef]) w := by
  simp [results, h]
theorem fl_at {L : List Qu} {t i : Nat} {q : Qu} (h : L[i]? = some q) : (L.map (fl t))[i]? = some (fl t q) := by rw [List.getElem?_map, h]; rfl
theorem sm_at {L : List Qu} {t i : Nat} {q : Qu} (h : L[i]? = some q) : (L.map (sm t))[i]? = some (sm t q) := by rw [List.getElem?_map, h]; rfl
theorem rr_at {L : List Qu} {t i : Nat} {q : Qu} (h : L[i]? = some q) : (rr t L)[i]? = some (it t q) := by unfold rr; rw [List.getElem?_map, h]; rfl
end Go.Proofs.Ytbhejjpkmnldhaa.tu
