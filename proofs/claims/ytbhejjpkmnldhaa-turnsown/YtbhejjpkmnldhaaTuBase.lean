/- Queues, sizes, what was sent, as they lie in memory. -/
import Derived.Test.YtbhejjpkmnldhaaTuMath
import Derived.Test.YtbhejjpkmnldhaaRwsCut
import Derived.Test.YtbhejjpkmnldhaaRwsDrop
import Derived.Test.YtbhejjpkmnldhaaRwsRd
import Derived.Test.YtbhejjpkmnldhaaRwsAt
import Derived.Test.YtbhejjpkmnldhaaAppRd
import Derived.Test.YtbhejjpkmnldhaaStepOne
import Derived.Test.YtbhejjpkmnldhaaAb
import Derived.Test.YtbhejjpkmnldhaaBlkRets
import Derived.WalkSpells
import Derived.WalkLawsBesides
import Derived.BigQuiet
import Derived.Deep.RegionWith
import Derived.Deep.DeepCutAuto
import Derived.LoopN
namespace Go.Proofs.Ytbhejjpkmnldhaa.tu
open Go.ChangeShapes Go.WideShapes Go.ChangeAt Go.RowKit
open Go.Proofs.Ytbhejjpkmnldhaa.boxes Go.Proofs.Ytbhejjpkmnldhaa.rwr
open Go.Proofs.Ytbhejjpkmnldhaa.rws (Knd Own cs_length cs_at cs_append cs_one)

/-- a queue as it lies: its sizes' slice by three numbers -/
structure Qv where
  sh : Int
  sv : Int
  sa : Option Addr
  sn : Nat
  sc : Nat
abbrev Qv.sl (x : Qv) : Value := .slice x.sa x.sn x.sc
abbrev QC (sh sv : Int) (v : Value) : Array Value := #[.int .i64 sh, .int .i64 sv, v]
abbrev Qv.cells (x : Qv) : Array Value := QC x.sh x.sv x.sl
abbrev Sn.cells (p : Sn) : Array Value := #[.int .i64 (p.i : Int), .int .i64 p.n]
theorem qv_one (x : Qv) : (Qv.cells x).all (·.oneCell') = true := by simp [Value.oneCell']
theorem qc_one (sh sv : Int) (a : Option Addr) (n c : Nat) : (QC sh sv (.slice a n c)).all (·.oneCell') = true := by simp [Value.oneCell']
theorem sn_one (x : Sn) : (Sn.cells x).all (·.oneCell') = true := by simp [Value.oneCell']
theorem qv_info : (Try.prog.info? 41).map (·.size) = some 3 := by kernel_rfl
theorem sn_info : (Try.prog.info? 34).map (·.size) = some 2 := by kernel_rfl
def QK : Knd Qv := { e := 41, s := 23, k := 3, by_ := 40, z := .agg #[.int .i64 0, .int .i64 0, .slice none 0 0], enc := Qv.cells, hk := fun _ => rfl, h1 := qv_one, pos := by decide, hz := rfl, hs := Try.underlying23, info := by kernel_rfl }
def NK : Knd Int := { e := 3, s := 39, k := 1, by_ := 8, z := .int .i64 0, enc := fun v => #[.int .i64 v], hk := fun _ => rfl, h1 := fun _ => by simp [Value.oneCell'], pos := by decide, hz := rfl, hs := Try.underlying39, info := by kernel_rfl }
def ZK : Knd Sn := { e := 34, s := 24, k := 2, by_ := 16, z := .agg #[.int .i64 0, .int .i64 0], enc := Sn.cells, hk := fun _ => rfl, h1 := sn_one, pos := by decide, hz := rfl, hs := Try.underlying24, info := by kernel_rfl }
theorem ret_int {k : IntKind} {a b : Int} (h : a = b) : Ending.returned (.int k a) = .returned (.int k b) := by rw [h]
theorem ret_bool {a b : Bool} (h : a = b) : Ending.returned (.bool a) = .returned (.bool b) := by rw [h]
section
variable {α : Type} {K : Knd α}
theorem rd_len {w : World} {v : Value} {l : List α} (h : Rd K w v l) : l.length ≤ 9223372036854775807 := by
  obtain ⟨_, _, _, hm, _⟩ := h
  unfold maxLen at hm; omega
theorem rd_spot {w : World} {sa : Option Addr} {n sc : Nat} {l : List α} (h : Rd K w (.slice sa n sc) l) (hp : 0 < l.length) : ∃ b off, sa = some ⟨b, off, none⟩ ∧ b < w.heap.size ∧ ∀ j x, l[j]? = some x → ∀ i, i < K.k → w.cell? ⟨b, off + j * K.k + i, none⟩ = (K.enc x)[i]? := by
  obtain ⟨sa', sc', e, _, _, hc⟩ := h
  simp only [Value.slice.injEq] at e
  obtain ⟨rfl, _, _⟩ := e
  exact hc hp
theorem rd_n {w : World} {sa : Option Addr} {n sc : Nat} {l : List α} (h : Rd K w (.slice sa n sc) l) : n = l.length := by
  obtain ⟨sa', sc', e, _⟩ := h
  simp only [Value.slice.injEq] at e
  exact e.2.1
theorem own_n {w : World} {B : Nat} {sa : Option Addr} {n sc : Nat} {l : List α} (h : Own K w B (.slice sa n sc) l) : n = l.length := rd_n (Own.rd h)
theorem own_ne {w : World} {B g : Nat} {v : Value} {l : List α} (h : Own K w B v l) (hg : g < B) : v.ownBlock ≠ some g := by
  rcases h.forms with ⟨rfl, _⟩ | ⟨g', cap, rfl, hB, _⟩
  · simp [Value.ownBlock]
  · simp [Value.ownBlock]; omega
end
theorem int_cells {w : World} {l : List Int} {sa : Option Addr} {n sc : Nat} (h : Rd NK w (.slice sa n sc) l) (hp : 0 < l.length) : ∃ b off, sa = some ⟨b, off, none⟩ ∧ b < w.heap.size ∧ ∀ (j : Nat) x, l[j]? = some x → w.cell? ⟨b, off + j, none⟩ = some (.int .i64 x) := by
  obtain ⟨b, off, e, hb, hx⟩ := rd_spot h hp
  refine ⟨b, off, e, hb, fun j x hj => ?_⟩
  have := hx j x hj 0 (by decide)
  simpa [NK] using this
theorem q_cells {w : World} {X : List Qv} {sa : Option Addr} {n sc : Nat} (h : Rd QK w (.slice sa n sc) X) (hp : 0 < X.length) : ∃ b off, sa = some ⟨b, off, none⟩ ∧ b < w.heap.size ∧ (∀ j x, X[j]? = some x → ∀ i, i < QK.k → w.cell? ⟨b, off + j * QK.k + i, none⟩ = (QK.enc x)[i]?) ∧ ∀ (j : Nat) x, X[j]? = some x → w.cell? ⟨b, off + j * 3, none⟩ = some (.int .i64 x.sh) ∧ w.cell? ⟨b, off + j * 3 + 1, none⟩ = some (.int .i64 x.sv) ∧ w.cell? ⟨b, off + j * 3 + 2, none⟩ = some x.sl := by
  obtain ⟨b, off, e, hb, hx⟩ := rd_spot h hp
  refine ⟨b, off, e, hb, hx, fun j x hj => ⟨?_, ?_, ?_⟩⟩
  · have := hx j x hj 0 (by decide)
    simpa [QK] using this
  · have := hx j x hj 1 (by decide)
    simpa [QK] using this
  · have := hx j x hj 2 (by decide)
    simpa [QK] using this
theorem s_cells {w : World} {X : List Sn} {sa : Option Addr} {n sc : Nat} (h : Rd ZK w (.slice sa n sc) X) (hp : 0 < X.length) : ∃ b off, sa = some ⟨b, off, none⟩ ∧ b < w.heap.size ∧ (∀ j x, X[j]? = some x → ∀ i, i < ZK.k → w.cell? ⟨b, off + j * ZK.k + i, none⟩ = (ZK.enc x)[i]?) := rd_spot h hp

/-- the slice v is read as the queues L -/
def TRd (w : World) (v : Value) (L : List Qu) : Prop := ∃ X : List Qv, Rd QK w v X ∧ X.length = L.length ∧ ∀ (j : Nat) x q, X[j]? = some x → L[j]? = some q → x.sh = q.sh ∧ x.sv = q.sv ∧ Rd NK w x.sl q.l
theorem TRd.below {w w' : World} {v : Value} {L : List Qu} (h : TRd w v L) (hb : Below w.heap.size w w') : TRd w' v L := by
  obtain ⟨X, h1, h2, h3⟩ := h
  exact ⟨X, h1.below hb, h2, fun j x q hx hq => ⟨(h3 j x q hx hq).1, (h3 j x q hx hq).2.1, (h3 j x q hx hq).2.2.below hb⟩⟩
theorem TRd.form {w : World} {v : Value} {L : List Qu} (h : TRd w v L) : ∃ sa sc, v = .slice sa L.length sc := by
  obtain ⟨X, h1, h2, _⟩ := h
  rw [← h2]; exact h1.form
theorem TRd.len {w : World} {v : Value} {L : List Qu} (h : TRd w v L) : L.length ≤ 9223372036854775807 := by
  obtain ⟨X, h1, h2, _⟩ := h
  rw [← h2]; exact rd_len h1

/-- a row of sizes of the call's own: numbers up to its cap -/
def FullN (w : World) (v : Value) : Prop := ∀ g cur e s, v.ownBlock = some g → w.heap[g]? = some (.cells cur e s) → ∀ i, i < cur.size → ∃ z : Int, cur[i]? = some (.int .i64 z)
def FN (w : World) (B : Nat) (v : Value) (l : List Int) : Prop := Own NK w B v l ∧ FullN w v
theorem FullN.same {w w' : World} {v : Value} (h : FullN w v) (e : ∀ g, v.ownBlock = some g → w'.heap[g]? = w.heap[g]?) : FullN w' v := fun g cur t s hg hc => h g cur t s hg (by rw [← e g hg]; exact hc)
theorem FN.nil (w : World) (B : Nat) : FN w B (.slice none 0 0) [] := ⟨Own.nil _ _ _, fun g cur e s h => by simp [Value.ownBlock] at h⟩
theorem FN.rd {w : World} {B : Nat} {v : Value} {l : List Int} (h : FN w B v l) : Rd NK w v l := Own.rd h.1
theorem FN.kept {w w' : World} {B : Nat} {v : Value} {l : List Int} (h : FN w B v l) (hb : Below w.heap.size w w') : FN w' B v l :=
  ⟨h.1.kept hb, h.2.same fun g hg => hb.block g (rwat.own_lt h.1 g hg)⟩
theorem FN.mono {w : World} {B B' : Nat} {v : Value} {l : List Int} (h : FN w B v l) (hb : B' ≤ B) : FN w B' v l := ⟨h.1.mono hb, h.2⟩
theorem FN.but {w w' : World} {B b : Nat} {v : Value} {l : List Int} (h : FN w B v l) (hb : But b w w') (hne : v.ownBlock ≠ some b) : FN w' B v l :=
  ⟨h.1.but hb hne, h.2.same fun g hg => hb.block g fun e => hne (by rw [hg, e])⟩
theorem FN.grown {w w' : World} {B : Nat} {v : Value} {l : List Int} {row : Option Nat} (h : FN w B v l) (g : w.grownBy w' row) (hne : v.ownBlock = none ∨ v.ownBlock ≠ row) : FN w' B v l :=
  ⟨rwat.own_grown h.1 g hne, h.2.same fun k hk => g.block k (rwat.own_lt h.1 k hk) fun e => by
    rcases hne with h0 | h0
    · rw [h0] at hk; cases hk
    · exact h0 (by rw [hk, e])⟩
theorem ints_get {cs : List Value} {l : List Int} (h : cs = NK.cs l) {i : Nat} (hi : i < cs.length) : ∃ z : Int, cs[i]? = some (.int .i64 z) := by
  subst h
  have hl : (NK.cs l).length = l.length * 1 := cs_length NK l
  have h1 : i < l.length := by omega
  have e := cs_at NK l i l[i] (List.getElem?_eq_getElem h1) 0 (by decide)
  have e2 : i * NK.k + 0 = i := by show i * 1 + 0 = i; omega
  rw [e2] at e
  exact ⟨_, e⟩
theorem zero_get (m i : Nat) (hi : i < (Builtin.zeroCells NK.z.cells m).size) : ∃ z : Int, (Builtin.zeroCells NK.z.cells m)[i]? = some (.int .i64 z) := by
  have hs : NK.z.cells.size = 1 := rfl
  simp only [Builtin.zeroCells, Array.size_map, Array.size_range, hs] at hi
  refine ⟨0, ?_⟩
  simp only [Builtin.zeroCells, hs, Array.getElem?_map]
  rw [Array.getElem?_range, if_pos (by omega)]
  simp only [Option.map_some, Nat.mod_one]
  rfl
end Go.Proofs.Ytbhejjpkmnldhaa.tu
