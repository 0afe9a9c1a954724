/- Rows of sizes in a row; queues that lie apart from them. -/
import Derived.Test.YtbhejjpkmnldhaaTuAvoid
namespace Go.Proofs.Ytbhejjpkmnldhaa.tu
open Go.ChangeShapes Go.WideShapes Go.ChangeAt Go.RowKit Go.BigFrame
open Go.Proofs.Ytbhejjpkmnldhaa Go.Proofs.Ytbhejjpkmnldhaa.boxes Go.Proofs.Ytbhejjpkmnldhaa.rwr Go.Proofs.Ytbhejjpkmnldhaa.rwat
open Go.Proofs.Ytbhejjpkmnldhaa.rws (Knd Own)

/-- a slice as it lies -/
structure Sl where
  a : Option Addr
  n : Nat
  c : Nat
abbrev Sl.v (s : Sl) : Value := .slice s.a s.n s.c
def RK : Knd Sl := { e := 39, s := 50, k := 1, by_ := 24, z := .slice none 0 0, enc := fun s => #[.slice s.a s.n s.c], hk := fun _ => rfl, h1 := fun s => by simp [Value.oneCell'], pos := by decide, hz := rfl, hs := Try.underlying50, info := by kernel_rfl }
/-- rows of sizes, each of the call's own, apart from each other -/
structure Rows (u : World) (B : Nat) (R : List Sl) (l : List (List Int)) : Prop where
  len : R.length = l.length
  own : ∀ (j : Nat) r c, R[j]? = some r → l[j]? = some c → Own NK u B r.v c
  apart : ∀ (j k : Nat) r s, j ≠ k → R[j]? = some r → R[k]? = some s → ∀ g, r.v.ownBlock = some g → s.v.ownBlock ≠ some g
theorem Rows.zero (u : World) (B m : Nat) (L : List Qu) (hm : L.length = m) : Rows u B (List.replicate m ⟨none, 0, 0⟩) (L.map (gn 0)) := by
  refine ⟨by simp [hm], fun j r c hr hc => ?_, fun j k r s _ hr _ g hg => ?_⟩
  · obtain ⟨h1, h2⟩ := List.mem_replicate.1 (List.mem_of_getElem? hr)
    subst h2
    rw [List.getElem?_map, Option.map_eq_some_iff] at hc
    obtain ⟨q, _, rfl⟩ := hc
    exact rws.Own.nil _ _ _
  · obtain ⟨h1, h2⟩ := List.mem_replicate.1 (List.mem_of_getElem? hr)
    subst h2
    simp [Value.ownBlock] at hg
theorem Rows.kept {u u' : World} {B : Nat} {R : List Sl} {l : List (List Int)} (h : Rows u B R l) (b : Below u.heap.size u u') : Rows u' B R l :=
  ⟨h.len, fun j r c hr hc => (h.own j r c hr hc).kept b, h.apart⟩
theorem Rows.but {u u' : World} {B g : Nat} {R : List Sl} {l : List (List Int)} (h : Rows u B R l) (b : But g u u') (hg : g < B) : Rows u' B R l :=
  ⟨h.len, fun j r c hr hc => (h.own j r c hr hc).but b (own_ne (h.own j r c hr hc) hg), h.apart⟩
theorem Rows.lt {u : World} {B : Nat} {R : List Sl} {l : List (List Int)} (h : Rows u B R l) {r : Sl} (hr : r ∈ R) : ∀ g, r.v.ownBlock = some g → B ≤ g ∧ g < u.heap.size := fun g hg => by
  obtain ⟨j, hj, e⟩ := List.mem_iff_getElem.1 hr
  have h1 : R[j]? = some r := by rw [List.getElem?_eq_getElem hj, e]
  have h2 := h.own j r _ h1 (List.getElem?_eq_getElem (by rw [← h.len]; exact hj))
  exact ⟨own_ge h2 g hg, own_lt h2 g hg⟩
/-- one more behind the i-th -/
theorem Rows.app {u u' : World} {B i : Nat} {R : List Sl} {l : List (List Int)} {r s : Sl} {c c' : List Int} (h : Rows u B R l) (hr : R[i]? = some r) (hc : l[i]? = some c) (o : Own NK u' B s.v c') (g : u.grownBy u' r.v.ownBlock) (x : s.v.ownBlock = r.v.ownBlock ∨ s.v.ownBlock = some u.heap.size) : Rows u' B (R.set i s) (l.set i c') := by
  have hi := (List.getElem?_eq_some_iff.1 hr).1
  have hi2 := (List.getElem?_eq_some_iff.1 hc).1
  have old : ∀ (k : Nat) z, k ≠ i → R[k]? = some z → ∀ b, z.v.ownBlock = some b → s.v.ownBlock ≠ some b := fun k z hk hz b hb e => by
    rcases x with x | x
    · rw [x] at e; exact h.apart k i z r hk hz hr b hb e
    · rw [x] at e
      have := (h.lt (List.mem_of_getElem? hz) b hb).2
      have e2 := Option.some.inj e
      omega
  refine ⟨by simp [h.len], fun j z d hz hd => ?_, fun j k z y hjk hz hy b hb => ?_⟩
  · by_cases e : j = i
    · subst e
      rw [List.getElem?_set_self hi] at hz
      rw [List.getElem?_set_self hi2] at hd
      obtain rfl := Option.some.inj hz
      obtain rfl := Option.some.inj hd
      exact o
    · rw [List.getElem?_set_ne (fun e2 => e e2.symm)] at hz hd
      have oz := h.own j z d hz hd
      refine own_grown oz g ?_
      cases hb : z.v.ownBlock with
      | none => exact Or.inl rfl
      | some b => exact Or.inr fun e2 => h.apart j i z r e hz hr b hb e2.symm
  · by_cases e : j = i
    · subst e
      rw [List.getElem?_set_self hi] at hz
      obtain rfl := Option.some.inj hz
      rw [List.getElem?_set_ne hjk] at hy
      exact fun e2 => old k y (fun e3 => hjk e3.symm) hy b e2 hb
    · rw [List.getElem?_set_ne (fun e2 => e e2.symm)] at hz
      by_cases e' : k = i
      · subst e'
        rw [List.getElem?_set_self hi] at hy
        obtain rfl := Option.some.inj hy
        exact old j z e hz b hb
      · rw [List.getElem?_set_ne (fun e2 => e' e2.symm)] at hy
        exact h.apart j k z y hjk hz hy b hb

/-- the slice v is read as the queues L: its row as it lies is X -/
structure Qs (u : World) (v : Value) (X : List Qv) (L : List Qu) : Prop where
  rd : Rd QK u v X
  len : X.length = L.length
  each : ∀ (j : Nat) x q, X[j]? = some x → L[j]? = some q → x.sh = q.sh ∧ x.sv = q.sv ∧ Rd NK u x.sl q.l
/-- nothing of it lies in the block g -/
def Off (v : Value) (X : List Qv) (L : List Qu) (g : Nat) : Prop := (0 < X.length → v.ownBlock ≠ some g) ∧ ∀ (j : Nat) x q, X[j]? = some x → L[j]? = some q → 0 < q.l.length → x.sl.ownBlock ≠ some g
theorem Qs.trd {u : World} {v : Value} {X : List Qv} {L : List Qu} (h : Qs u v X L) : TRd u v L := ⟨X, h.rd, h.len, h.each⟩
theorem qs_of {u : World} {v : Value} {L : List Qu} (h : TRd u v L) : ∃ X, Qs u v X L := by
  obtain ⟨X, a, b, c⟩ := h
  exact ⟨X, a, b, c⟩
theorem qs_to {u : World} {B : Nat} {v : Value} {L : List Qu} (h : TO u B v L) : ∃ X, Qs u v X L ∧ ∀ g, g < B → Off v X L g := by
  obtain ⟨X, h1, h2, h3⟩ := h
  exact ⟨X, ⟨Own.rd h1, h2, fun j x q hx hq => ⟨(h3 j x q hx hq).1, (h3 j x q hx hq).2.1, (h3 j x q hx hq).2.2.rd⟩⟩, fun g hg => ⟨fun _ => own_ne h1 hg, fun j x q hx hq _ => own_ne (h3 j x q hx hq).2.2.1 hg⟩⟩
theorem Qs.below {u u' : World} {v : Value} {X : List Qv} {L : List Qu} (h : Qs u v X L) (b : Below u.heap.size u u') : Qs u' v X L :=
  ⟨h.rd.below b, h.len, fun j x q hx hq => ⟨(h.each j x q hx hq).1, (h.each j x q hx hq).2.1, (h.each j x q hx hq).2.2.below b⟩⟩
theorem Qs.fresh {u : World} {v : Value} {X : List Qv} {L : List Qu} (h : Qs u v X L) {g : Nat} (hg : u.heap.size ≤ g) : Off v X L g :=
  ⟨rd_far h.rd hg, fun j x q hx hq => rd_far (h.each j x q hx hq).2.2 hg⟩
theorem rd_grown {α : Type} {K : Knd α} {u u' : World} {v : Value} {l : List α} {row : Option Nat} (h : Rd K u v l) (b : u.grownBy u' row) (hne : 0 < l.length → ∀ g, row = some g → v.ownBlock ≠ some g) : Rd K u' v l := by
  obtain ⟨sa, sc, rfl, hm, hf, hc⟩ := h
  refine ⟨sa, sc, rfl, hm, hf, fun hp => ?_⟩
  obtain ⟨b1, off, rfl, hlt, hx⟩ := hc hp
  refine ⟨b1, off, rfl, Nat.lt_of_lt_of_le hlt b.size, fun j x hj i hi => ?_⟩
  have hb := b.block b1 hlt (fun e => hne hp b1 e.symm rfl)
  rw [← hx j x hj i hi]
  exact World.cell?_of_block (a := ⟨b1, off + j * K.k + i, none⟩) hb
theorem Qs.grown {u u' : World} {v : Value} {X : List Qv} {L : List Qu} {row : Option Nat} (h : Qs u v X L) (b : u.grownBy u' row) (hne : ∀ g, row = some g → Off v X L g) : Qs u' v X L :=
  ⟨rd_grown h.rd b fun hp g hg => (hne g hg).1 hp, h.len, fun j x q hx hq => ⟨(h.each j x q hx hq).1, (h.each j x q hx hq).2.1, rd_grown (h.each j x q hx hq).2.2 b fun hp g hg => (hne g hg).2 j x q hx hq hp⟩⟩
theorem Qs.but {u u' : World} {v : Value} {X : List Qv} {L : List Qu} {g : Nat} (h : Qs u v X L) (b : But g u u') (hne : Off v X L g) : Qs u' v X L :=
  ⟨rd_but h.rd b hne.1, h.len, fun j x q hx hq => ⟨(h.each j x q hx hq).1, (h.each j x q hx hq).2.1, rd_but (h.each j x q hx hq).2.2 b (hne.2 j x q hx hq)⟩⟩
/-- nothing of it lies in the rows R -/
def Offs (v : Value) (X : List Qv) (L : List Qu) (R : List Sl) : Prop := ∀ r ∈ R, ∀ g, r.v.ownBlock = some g → Off v X L g
theorem Offs.app {u : World} {v : Value} {X : List Qv} {L : List Qu} {R : List Sl} {r s : Sl} {i : Nat} (h : Offs v X L R) (q : Qs u v X L) (hr : R[i]? = some r) (x : s.v.ownBlock = r.v.ownBlock ∨ s.v.ownBlock = some u.heap.size) : Offs v X L (R.set i s) := by
  intro z hz g hg
  rcases List.mem_or_eq_of_mem_set hz with hz | rfl
  · exact h z hz g hg
  · rcases x with x | x
    · rw [x] at hg; exact h r (List.mem_of_getElem? hr) g hg
    · rw [x] at hg
      obtain rfl := Option.some.inj hg
      exact q.fresh (Nat.le_refl _)
theorem row_done {w2 V w7 : World} {B0 B2 g m pi : Nat} {R : List Sl} {SS : List (List Int)} {zv v1 : Value} {M : List Sn} {X1 : List Qv} {L1 : List Qu} {r s : Sl} {c : List Int} {pn : Int}
    (Rw : Rows V B2 R SS) (OR : Own RK V B0 (.slice (some ⟨g, 0, none⟩) m m) R) (Z : Own ZK V B0 zv M) (Q : Qs V v1 X1 L1) (N : Offs v1 X1 L1 R) (F : Off v1 X1 L1 g) (bel : Below B0 w2 V) (hgB : g < B2) (hB0 : B0 ≤ g)
    (hr : R[pi]? = some r) (hc : SS[pi]? = some c) (o7 : Own NK w7 B2 s.v (c ++ [pn])) (g7 : V.grownBy w7 r.v.ownBlock) (x7 : s.v.ownBlock = r.v.ownBlock ∨ s.v.ownBlock = some V.heap.size)
    (OR8 : Own RK (w7.setCell ⟨g, pi, none⟩ s.v) B0 (.slice (some ⟨g, 0, none⟩) m m) (R.set pi s)) :
    ∃ R', Rows (w7.setCell ⟨g, pi, none⟩ s.v) B2 R' (SS.set pi (c ++ [pn])) ∧ Own RK (w7.setCell ⟨g, pi, none⟩ s.v) B0 (.slice (some ⟨g, 0, none⟩) m m) R' ∧ Own ZK (w7.setCell ⟨g, pi, none⟩ s.v) B0 zv M ∧ Qs (w7.setCell ⟨g, pi, none⟩ s.v) v1 X1 L1 ∧ Offs v1 X1 L1 R' ∧ Below B0 w2 (w7.setCell ⟨g, pi, none⟩ s.v) ∧ V.heap.size ≤ (w7.setCell ⟨g, pi, none⟩ s.v).heap.size := by
  have u := but_setCell w7 g pi s.v
  have rm := List.mem_of_getElem? hr
  have oR := Rw.own pi r c hr hc
  have Rw7 := Rw.app hr hc o7 g7 x7
  have OR7 := own_grown OR g7 (kinds_ne OR oR (by decide))
  have Z7 := own_grown Z g7 (kinds_ne Z oR (by decide))
  have Q7 := Q.grown g7 fun b hb => N r rm b hb
  have N7 := N.app Q hr x7
  have hsz := g7.size
  have hge : ∀ b, r.v.ownBlock = some b → B0 ≤ b := fun b hb => by have := (Rw.lt rm b hb).1; omega
  have b7 : Below B0 w2 w7 := bel.trans ((Only.of_app g7 x7).below hge (by have := own_lt OR g rfl; omega))
  exact ⟨R.set pi s, Rw7.but u hgB, OR8, Z7.but u (kinds_ne' Z7 OR7 (by decide) rfl), Q7.but u F, N7, u.below b7 hB0, by rw [u.size]; exact hsz⟩
theorem gn_at {L : List Qu} {t i : Nat} {q : Qu} (h : L[i]? = some q) : (L.map (gn t))[i]? = some (gn t q) := by rw [List.getElem?_map, h]; rfl
end Go.Proofs.Ytbhejjpkmnldhaa.tu
