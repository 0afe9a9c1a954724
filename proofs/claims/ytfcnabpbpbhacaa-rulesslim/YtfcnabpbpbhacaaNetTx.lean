/- Bits as text. -/
import Derived.Test.YtfcnabpbpbhacaaNetBase
import Derived.Lib.Bytes
namespace Go.Proofs.Ytfcnabpbpbhacaa.pf
open Go.Proofs.Ytfcnabpbpbhacaa.pm

def enb (b : Bool) : UInt8 := if b then 49 else 48
def enl (p : Pth) : List UInt8 := p.map enb
theorem en_data (p : Pth) : (en p).data.toList = enl p := rfl
theorem bytes_eq {a b : ByteArray} (h : a.data.toList = b.data.toList) : a = b := by cases a; cases b; simp_all
theorem enb_inj {a b : Bool} (h : enb a = enb b) : a = b := by cases a <;> cases b <;> first | rfl | (exact absurd h (by decide))
theorem enl_inj : ∀ {p q : Pth}, enl p = enl q → p = q
  | [], [], _ => rfl
  | [], _ :: _, h => by simp [enl] at h
  | _ :: _, [], h => by simp [enl] at h
  | a :: p, b :: q, h => by
    simp only [enl, List.map_cons, List.cons.injEq] at h
    rw [enb_inj h.1, enl_inj (p := p) (q := q) h.2]
theorem en_inj {p q : Pth} (h : en p = en q) : p = q := enl_inj (by rw [← en_data, ← en_data, h])
theorem enl_append (p q : Pth) : enl (p ++ q) = enl p ++ enl q := by simp [enl]
theorem en_append (p q : Pth) : en (p ++ q) = en p ++ en q := by
  apply bytes_eq
  simp [en_data, enl_append]
end Go.Proofs.Ytfcnabpbpbhacaa.pf
