/- Segments: their cells; options' bytes; the error and the text that a segment is written with; the error and the segment that a text is read with; a segment that is moved. -/
import Derived.Test.YtpcknkpddinccaaDoorIpMath
import Derived.Test.YtpcknkpddinccaaDoorOneMath
import Derived.Test.YtpcknkpddinccaaDoorRwsRd
import Derived.Test.YtpcknkpddinccaaDoorRefBytes
namespace Go.Proofs.YtpcknkpddinccaaDoor.tcb
open Go.ChangeShapes Go.WideShapes Go.ChangeAt Go.RowKit
open Go.Proofs.YtpcknkpddinccaaDoor.EM Go.Proofs.YtpcknkpddinccaaDoor.ethb Go.Proofs.YtpcknkpddinccaaDoor.SM Go.Proofs.YtpcknkpddinccaaDoor.ipb Go.Proofs.YtpcknkpddinccaaDoor.ipm Go.Proofs.YtpcknkpddinccaaDoor.onem
open Go.Proofs.YtpcknkpddinccaaDoor.rws (Knd)

/-- an option -/
structure Opt where
  ki : Int
  d : ByteArray
abbrev Opt.cells (o : Opt) : Array Value := #[.int .i64 o.ki, .string o.d]
instance : Inhabited Opt := ⟨⟨0, ⟨#[]⟩⟩⟩
theorem op_one (p : Opt) : p.cells.all (·.oneCell') = true := by simp [Value.oneCell']
def OK : Knd Opt := { e := 40, s := 23, k := 2, by_ := 24, z := .agg #[.int .i64 0, .string ⟨#[]⟩], enc := Opt.cells, hk := fun _ => rfl, h1 := op_one, pos := by decide, hz := rfl, hs := Tryd.underlying23, info := by kernel_rfl }
/-- a segment but for its options -/
structure Sh where
  fr : Int
  to : Int
  sq : Int
  ak : Int
  fl : Int
  wi : Int
  ur : Int
  d : ByteArray
abbrev Sh.cells (h : Sh) (v : Value) : Array Value := #[.int .i64 h.fr, .int .i64 h.to, .int .u32 h.sq, .int .u32 h.ak, .int .i64 h.fl, .int .i64 h.wi, .int .i64 h.ur, v, .string h.d]
def zeroS : Sh := ⟨0, 0, 0, 0, 0, 0, 0, ⟨#[]⟩⟩
theorem sg_info : (Tryd.prog.info? 25).map (·.size) = some 9 := by kernel_rfl
theorem op_info : (Tryd.prog.info? 40).map (·.size) = some 2 := by kernel_rfl
theorem sg_one (h : Sh) (a : Option Addr) (n c : Nat) : (h.cells (.slice a n c)).all (·.oneCell') = true := by simp [Value.oneCell']
/-- longs that are ones -/
structure Sh.Adr (h : Sh) : Prop where
  s0 : 0 ≤ h.sq
  s1 : h.sq ≤ 4294967295
  a0 : 0 ≤ h.ak
  a1 : h.ak ≤ 4294967295
/-- a segment, plain -/
structure Sg where
  h : Sh
  os : List Opt

/-- longs that are more by so much, bytes by bytes -/
def long (a b c d : UInt8) : Int := 65536 * (256 * (a.toNat : Int) + (b.toNat : Int)) + (256 * (c.toNat : Int) + (d.toNat : Int))
def lmv (x : Int) : List UInt8 → List UInt8
  | a :: b :: c :: d :: r => adr ((long a b c d + x) % 4294967296) ++ lmv x r
  | _ => []
def mvo (x : Int) (o : Opt) : Opt := if o.ki = 5 ∧ o.d.size % 8 = 0 then ⟨5, ⟨(lmv x o.d.data.toList).toArray⟩⟩ else o
def noAck (h : Sh) : Prop := bits .and .i64 h.fl 16 = 0
instance (h : Sh) : Decidable (noAck h) := by unfold noAck; infer_instance
def mvh (h : Sh) (a b : Int) : Sh := { h with sq := (h.sq + a) % 4294967296, ak := if noAck h then h.ak else (h.ak + b) % 4294967296 }
def mvs (h : Sh) (os : List Opt) (b : Int) : List Opt := if noAck h then os else os.map (mvo b)
/-- what Mss tells -/
def isM (o : Opt) : Bool := decide (o.ki = 2) && decide (o.d.size = 2)
def mss (os : List Opt) : Int × Bool := match os.find? isM with
  | some o => (wd o.d 0, true)
  | none => (0, false)
theorem lmv_len (x : Int) : ∀ (n : Nat) (l : List UInt8), l.length = 4 * n → (lmv x l).length = l.length
  | 0, l, h => by
    have : l = [] := List.eq_nil_of_length_eq_zero (by omega)
    subst this; rfl
  | n + 1, l, h => by
    match l, h with
    | a :: b :: c :: d :: r, h =>
      simp only [List.length_cons] at h
      have ih := lmv_len x n r (by omega)
      simp [lmv, adr, ih]
theorem lmv_step (x : Int) (s : ByteArray) (k : Nat) (h : k + 3 < s.size) : lmv x (s.data.toList.drop k) = adr ((65536 * wd s k + wd s (k + 2) + x) % 4294967296) ++ lmv x (s.data.toList.drop (k + 4)) := by
  have hl : s.data.toList.length = s.size := size_list s
  have e : s.data.toList.drop k = s.data.toList[k]'(by omega) :: s.data.toList[k + 1]'(by omega) :: s.data.toList[k + 2]'(by omega) :: s.data.toList[k + 3]'(by omega) :: s.data.toList.drop (k + 4) := by
    rw [List.drop_eq_getElem_cons (by omega), List.drop_eq_getElem_cons (i := k + 1) (by omega), List.drop_eq_getElem_cons (i := k + 2) (by omega), List.drop_eq_getElem_cons (i := k + 3) (by omega)]
  rw [e]
  have g : ∀ (j : Nat) (hj : j < s.data.toList.length), ((s.data.toList[j]'hj).toNat : Int) = bt s j := fun j hj => by
    unfold bt; rw [List.getD_eq_getElem?_getD, List.getElem?_eq_getElem hj]; rfl
  simp only [lmv, long, g, wd]
end Go.Proofs.YtpcknkpddinccaaDoor.tcb
