/- Segments: the options that bytes are read as; the error and the segment that a text is read with. -/
import Derived.Test.YtpcknkpddinccaaDoorTcpTxt
namespace Go.Proofs.YtpcknkpddinccaaDoor.tcrb
open Go.Proofs.YtpcknkpddinccaaDoor.EM Go.Proofs.YtpcknkpddinccaaDoor.ethb Go.Proofs.YtpcknkpddinccaaDoor.SM Go.Proofs.YtpcknkpddinccaaDoor.ipb Go.Proofs.YtpcknkpddinccaaDoor.ipm Go.Proofs.YtpcknkpddinccaaDoor.tcb Go.Proofs.YtpcknkpddinccaaDoor.tct Go.Proofs.YtpcknkpddinccaaDoor.dgb

/-- nothing but bytes 0 -/
def az (l : List UInt8) : Bool := l.all (· == 0)
/-- the options that bytes are read as -/
def rdo (l : List UInt8) : Option (List Opt) :=
  match l with
  | [] => some []
  | b :: r =>
    if b = 0 then (if az r = true then some [] else none)
    else if b = 1 then (rdo r).map (⟨1, ⟨#[]⟩⟩ :: ·)
    else match r with
      | [] => none
      | c :: q =>
        if 2 ≤ c.toNat ∧ c.toNat ≤ q.length + 2 then (rdo (q.drop (c.toNat - 2))).map (⟨(b.toNat : Int), ⟨(q.take (c.toNat - 2)).toArray⟩⟩ :: ·)
        else none
termination_by l.length
decreasing_by
  all_goals simp only [List.length_cons, List.length_drop]; omega
theorem rdo_nil : rdo [] = some [] := by rw [rdo]
theorem rdo_zero (r : List UInt8) : rdo (0 :: r) = if az r = true then some [] else none := by rw [rdo.eq_def]; simp
theorem rdo_one (r : List UInt8) : rdo (1 :: r) = (rdo r).map (⟨1, ⟨#[]⟩⟩ :: ·) := by
  conv => lhs; rw [rdo.eq_def]
  simp
theorem rdo_short (b : UInt8) (h0 : b ≠ 0) (h1 : b ≠ 1) : rdo [b] = none := by rw [rdo.eq_def]; simp [h0, h1]
theorem rdo_more (b c : UInt8) (q : List UInt8) (h0 : b ≠ 0) (h1 : b ≠ 1) : rdo (b :: c :: q) =
    if 2 ≤ c.toNat ∧ c.toNat ≤ q.length + 2 then (rdo (q.drop (c.toNat - 2))).map (⟨(b.toNat : Int), ⟨(q.take (c.toNat - 2)).toArray⟩⟩ :: ·) else none := by
  conv => lhs; rw [rdo.eq_def]
  simp [h0, h1]
/-- how many bytes are ahead of Data -/
def hl (s : ByteArray) : Nat := 4 * ((bt s 12).toNat / 16)
/-- the error that a text is read with -/
def rse (s : ByteArray) (f t : Int) : Int :=
  if s.size < 20 then 3 else if s.size < hl s then 3 else if hl s < 20 ∨ bt s 12 % 16 ≠ 0 then 4 else if 65455 < s.size - hl s then 2
  else if rdo (s.extract 20 (hl s)).data.toList = none then 4 else if wsum 0 (und f t 6 s.size ++ s.data.toList) ≠ 65535 then 5 else 0
def rdh (s : ByteArray) : Sh := ⟨wd s 0, wd s 2, 65536 * wd s 4 + wd s 6, 65536 * wd s 8 + wd s 10, bt s 13, wd s 14, wd s 18, s.extract (hl s) s.size⟩
def rds (s : ByteArray) : List Opt := (rdo (s.extract 20 (hl s)).data.toList).getD []
def rgh (s : ByteArray) (f t : Int) : Sh := if rse s f t = 0 then rdh s else zeroS
def rgo (s : ByteArray) (f t : Int) : List Opt := if rse s f t = 0 then rds s else []
end Go.Proofs.YtpcknkpddinccaaDoor.tcrb
