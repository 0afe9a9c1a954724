/- Parts, heaps, pools: their cells; what is right of them, plain. Rows that are read, wherever they lie. -/
import Derived.Test.YtlbpapngcgnepaaFragBase
import Derived.Test.YtlbpapngcgnepaaAb
namespace Go.Proofs.Ytlbpapngcgnepaa.frp
open Go.ChangeShapes Go.WideShapes Go.ChangeAt Go.RowKit
open Go.Proofs.Ytlbpapngcgnepaa.ipb Go.Proofs.Ytlbpapngcgnepaa.boxes Go.Proofs.Ytlbpapngcgnepaa.rws Go.Proofs.Ytlbpapngcgnepaa.frb

/-- a part -/
structure Pt where
  a : Int
  d : ByteArray
  la : Bool
abbrev Pt.cells (p : Pt) : Array Value := #[.int .i64 p.a, .string p.d, .bool p.la]
/-- a heap's head: all but its parts -/
structure Hd where
  fr : Int
  to : Int
  pr : Int
  id : Int
  tos : Int
  li : Int
  o : ByteArray
/-- a heap as it lies: its head, and the slice of its parts -/
structure Hv where
  h : Hd
  sa : Option Addr
  sn : Nat
  sc : Nat
abbrev Hv.sl (x : Hv) : Value := .slice x.sa x.sn x.sc
abbrev Hd.cells (h : Hd) (v : Value) : Array Value := #[.int .u32 h.fr, .int .u32 h.to, .int .i64 h.pr, .int .i64 h.id, .int .i64 h.tos, .int .i64 h.li, .string h.o, v]
abbrev Hv.cells (x : Hv) : Array Value := x.h.cells x.sl
theorem pt_one (p : Pt) : p.cells.all (·.oneCell') = true := by simp [Value.oneCell']
theorem hv_one (x : Hv) : x.cells.all (·.oneCell') = true := by simp [Value.oneCell']
def TK : Knd Pt := { e := 49, s := 44, k := 3, by_ := 32, z := .agg #[.int .i64 0, .string ⟨#[]⟩, .bool false], enc := Pt.cells, hk := fun _ => rfl, h1 := pt_one, pos := by decide, hz := rfl, hs := Try.underlying44, info := by kernel_rfl }
def HK : Knd Hv := { e := 46, s := 31, k := 8, by_ := 80, z := .agg #[.int .u32 0, .int .u32 0, .int .i64 0, .int .i64 0, .int .i64 0, .int .i64 0, .string ⟨#[]⟩, .slice none 0 0], enc := Hv.cells, hk := fun _ => rfl, h1 := hv_one, pos := by decide, hz := rfl, hs := Try.underlying31, info := by kernel_rfl }
theorem pt_info : (Try.prog.info? 49).map (·.size) = some 3 := by kernel_rfl
theorem hp_info : (Try.prog.info? 46).map (·.size) = some 8 := by kernel_rfl
theorem nm_info : (Try.prog.info? 63).map (·.size) = some 4 := by kernel_rfl

section
variable {α : Type} {K : Knd α}
/-- a slice's form -/
structure Fm (sa : Option Addr) (n sc : Nat) : Prop where
  le : n ≤ sc
  nil : sa = none → sc = 0
theorem Fm.some {b off n sc : Nat} (h : n ≤ sc) : Fm (some ⟨b, off, none⟩) n sc :=
  ⟨h, (fun e => by cases e)⟩
/-- the slice v is read as l -/
def Rd (K : Knd α) (w : World) (v : Value) (l : List α) : Prop :=
  ∃ sa sc, v = .slice sa l.length sc ∧ l.length ≤ maxLen ∧ Fm sa l.length sc ∧ (0 < l.length → ∃ b off, sa = some ⟨b, off, none⟩ ∧ b < w.heap.size ∧ ∀ j x, l[j]? = some x → ∀ i, i < K.k → w.cell? ⟨b, off + j * K.k + i, none⟩ = (K.enc x)[i]?)
theorem Own.rd {w : World} {B : Nat} {v : Value} {l : List α} (h : Own K w B v l) : Rd K w v l := by
  rcases h.forms with ⟨rfl, rfl⟩ | ⟨g, cap, rfl, hB, hg, hn, hm⟩
  · exact ⟨none, 0, rfl, Nat.zero_le _, ⟨Nat.zero_le _, fun _ => rfl⟩, fun h => by simp at h⟩
  · refine ⟨_, cap, rfl, Nat.le_trans hn hm, Fm.some hn, fun _ => ⟨g, 0, rfl, hg, fun j x hj i hi => ?_⟩⟩
    rw [Nat.zero_add]; exact h.cell hj hi
theorem Rd.below {w w' : World} {v : Value} {l : List α} (h : Rd K w v l) (hb : Below w.heap.size w w') : Rd K w' v l := by
  obtain ⟨sa, sc, rfl, hm, hn, hc⟩ := h
  refine ⟨sa, sc, rfl, hm, hn, fun hp => ?_⟩
  obtain ⟨b, off, rfl, hlt, hx⟩ := hc hp
  exact ⟨b, off, rfl, Nat.lt_of_lt_of_le hlt hb.size, fun j x hj i hi => (hb.cell (p := ⟨b, off + j * K.k + i, none⟩) hlt).trans (hx j x hj i hi)⟩
theorem Rd.form {w : World} {v : Value} {l : List α} (h : Rd K w v l) : ∃ sa sc, v = .slice sa l.length sc := by
  obtain ⟨sa, sc, rfl, _⟩ := h
  exact ⟨sa, sc, rfl⟩
theorem rd_cells [Inhabited α] {w : World} {b off : Nat} {l : List α} (hx : ∀ j x, l[j]? = some x → ∀ i, i < K.k → w.cell? ⟨b, off + j * K.k + i, none⟩ = (K.enc x)[i]?) :
    ∀ j, j < l.length → ∀ i v, ((K.enc l[j]!).toList)[i]? = some v → w.cell? ⟨b, off + j * K.k + i, none⟩ = some v := by
  intro j hj i v hv
  have hi : i < K.k := by
    have := (List.getElem?_eq_some_iff.1 hv).1
    rwa [Array.length_toList, K.hk] at this
  have hl : l[j]? = some l[j]! := by rw [List.getElem?_eq_getElem hj, List.getElem!_eq_getElem?_getD, List.getElem?_eq_getElem hj]; rfl
  rw [hx j _ hl i hi]
  simpa using hv
/-- an element of a row is loaded -/
theorem rd_load {ops : Array Oper} {rest : List Oper} {o : Oper} {a : Act} {Q : Exit → Act → World → Prop} (K : Knd α) (W : World) (hgd : o.guard = none) (x : Operand) (ho : o.op = .load K.e x)
    (b off0 : Nat) (l : List α) (hc : ∀ j y, l[j]? = some y → ∀ i, i < K.k → W.cell? ⟨b, off0 + j * K.k + i, none⟩ = (K.enc y)[i]?) (j : Nat) (off : Nat) (hx : a.eval x = .pointer (some ⟨b, off, none⟩)) (hoff : off = off0 + j * K.k) (y : α) (hy : l[j]? = some y) (F : Array Value) (hF : K.enc y = F)
    (d : TypeDesc) (hu : Try.prog.underlying K.e = some d) (hd : wideD d = true)
    (hK : wpList Try.prog ops Q rest (a.put o.dst (.agg F)) W) : wpList Try.prog ops Q (o :: rest) a W := by
  subst hF
  refine wpList_plain hgd fun _ hK' => ?_
  have hi : (Try.prog.info? K.e).map (·.size) = some (K.enc y).size := by
    obtain ⟨i0, hi, _, hz1, _⟩ := info_parts K.info
    rw [hi, K.hk]; simp [hz1]
  unfold Oper.wp execOp
  simp only [ho, hx, Instr.loadAt, Instr.sureAddr, Sem.run_bind, Sem.run_pure, Result.andThen_ok, run_load_at W b off K.e (K.enc y) d (fun i hi => by rw [hoff]; exact hc j y hy i (by rwa [K.hk] at hi)) hu hd hi]
  exact hK' _ _ hK
end

/-- a heap, plain -/
structure Hp where
  h : Hd
  ps : List Pt
/-- the pool v is read as L -/
def PRd (w : World) (v : Value) (L : List Hp) : Prop := ∃ X : List Hv, Rd HK w v X ∧ X.length = L.length ∧ ∀ (j : Nat) x (h : Hp), X[j]? = some x → L[j]? = some h → x.h = h.h ∧ Rd TK w x.sl h.ps
theorem PRd.below {w w' : World} {v : Value} {L : List Hp} (h : PRd w v L) (hb : Below w.heap.size w w') : PRd w' v L := by
  obtain ⟨X, h1, h2, h3⟩ := h
  exact ⟨X, h1.below hb, h2, fun j x y hx hy => ⟨(h3 j x y hx hy).1, (h3 j x y hx hy).2.below hb⟩⟩

/-- where a part ends -/
def Pt.e (p : Pt) : Int := p.a + p.d.size
/-- Data that are right -/
def dok (d : ByteArray) (la : Bool) : Bool := decide (d.size ≠ 0) && (la || decide (d.size % 8 = 0))
/-- a part that is right -/
def Pt.ok (p : Pt) : Bool := decide (0 ≤ p.a) && (decide (p.a % 8 = 0) && (decide (p.e ≤ 65515) && dok p.d p.la))
def fol (b p : Pt) : Bool := !b.la && decide (b.e ≤ p.a)
/-- parts that are right: each by itself, each behind the one before it -/
def folls : Pt → List Pt → Bool
  | _, [] => true
  | b, p :: r => (p.ok && fol b p) && folls p r
def psok : List Pt → Bool
  | [] => false
  | p :: r => p.ok && folls p r
def hdz (h : Hd) : Bool := decide (h.tos = 0) && (decide (h.li = 0) && decide (h.o.size = 0))
def Hp.ok (x : Hp) : Bool := psok x.ps && (match x.ps with
  | p :: _ => decide (p.a = 0) || hdz x.h
  | [] => false)
/-- heaps of the same four -/
def sameH (a b : Hd) : Bool := a.fr == b.fr && (a.to == b.to && (a.pr == b.pr && a.id == b.id))
/-- a pool's error -/
def bigP (L : List Hp) : Bool := decide (16 < L.length) || L.any fun x => decide (64 < x.ps.length)
def okFrom : List Hp → List Hp → Bool
  | _, [] => true
  | A, x :: r => (!(A.any fun y => sameH y.h x.h) && x.ok) && okFrom (A ++ [x]) r
def perr (L : List Hp) : Int := if bigP L then 2 else if okFrom [] L then 0 else 4
end Go.Proofs.Ytlbpapngcgnepaa.frp
