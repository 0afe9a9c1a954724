/- Plain mathematics of cookies: a road; the eighteen bytes; a cookie by a number, a count and an index. -/
import Derived.Test.YtfaebenhjilkgaaIpMath
namespace Go.Proofs.Ytfaebenhjilkgaa.ckm
open Go.ChangeShapes Go.WideShapes Go.ChangeAt Go.RowKit
open Go.Proofs.Ytfaebenhjilkgaa.EM Go.Proofs.Ytfaebenhjilkgaa.ethb Go.Proofs.Ytfaebenhjilkgaa.SM Go.Proofs.Ytfaebenhjilkgaa.ipb
open Go.Proofs.Ytfaebenhjilkgaa.ipm (bytes_ext ext_list)

/-- a road -/
structure Ro where
  f : Int
  t : Int
  p : Int
  q : Int
abbrev Ro.cells (r : Ro) : Array Value := #[.int .u32 r.f, .int .u32 r.t, .int .i64 r.p, .int .i64 r.q]
/-- its ports can be written -/
def Ro.ok (r : Ro) : Bool := decide (0 ≤ r.p ∧ r.p < 65536) && decide (0 ≤ r.q ∧ r.q < 65536)
structure Ro.Ad (r : Ro) : Prop where
  f0 : 0 ≤ r.f
  f1 : r.f ≤ 4294967295
  t0 : 0 ≤ r.t
  t1 : r.t ≤ 4294967295
theorem Ro.okb {r : Ro} (h : r.ok = true) : 0 ≤ r.p ∧ r.p ≤ 65535 ∧ 0 ≤ r.q ∧ r.q ≤ 65535 := by
  unfold Ro.ok at h; simp at h; omega
/-- a number's lowest bytes, the highest of them first -/
def num (n : Int) : Nat → List UInt8
  | 0 => []
  | k + 1 => b8 (n / 256 ^ k) :: num n k
theorem num_len (n : Int) : ∀ k, (num n k).length = k
  | 0 => rfl
  | k + 1 => by simp [num, num_len n k]
theorem num4 (n : Int) (h0 : 0 ≤ n) (h1 : n ≤ 4294967295) : num n 4 = adr n := by
  simp only [num, adr]
  have e1 : b8 (n / 256 ^ 3) = hi8 (n / 65536) := by unfold b8 hi8; congr 2; omega
  have e2 : b8 (n / 256 ^ 2) = lo8 (n / 65536) := by unfold b8 lo8; congr 2
  have e3 : b8 (n / 256 ^ 1) = hi8 (n % 65536) := by unfold b8 hi8; congr 2; omega
  have e4 : b8 (n / 256 ^ 0) = lo8 (n % 65536) := by unfold b8 lo8; congr 2; omega
  rw [e1, e2, e3, e4]
theorem num2 (n : Int) (h0 : 0 ≤ n) (h1 : n ≤ 65535) : num n 2 = [hi8 n, lo8 n] := by
  simp only [num]
  have e3 : b8 (n / 256 ^ 1) = hi8 n := by unfold b8 hi8; congr 2; omega
  have e4 : b8 (n / 256 ^ 0) = lo8 n := by unfold b8 lo8; congr 2; omega
  rw [e3, e4]
/-- the eighteen bytes -/
def utl (r : Ro) (s c i : Int) : List UInt8 := adr r.f ++ (adr r.t ++ (hi8 r.p :: lo8 r.p :: hi8 r.q :: lo8 r.q :: (adr s ++ [b8 c, b8 i])))
def utx (r : Ro) (s c i : Int) : ByteArray := ⟨(utl r s c i).toArray⟩
theorem utl_len (r : Ro) (s c i : Int) : (utl r s c i).length = 18 := by simp [utl, adr]
theorem utx_size (r : Ro) (s c i : Int) : (utx r s c i).size = 18 := by
  show (utl r s c i).toArray.size = 18; rw [List.size_toArray, utl_len]
/-- count, index and mark in one -/
def ckn (c i m : Int) : Int := 134217728 * c + (16777216 * i + m)
theorem ckn_bd {c i m : Int} (c0 : 0 ≤ c) (c1 : c ≤ 31) (i0 : 0 ≤ i) (i1 : i ≤ 7) (m0 : 0 ≤ m) (m1 : m < 16777216) : 0 ≤ ckn c i m ∧ ckn c i m ≤ 4294967295 := by unfold ckn; omega
theorem ckn_c {c i m : Int} (i0 : 0 ≤ i) (i1 : i ≤ 7) (m0 : 0 ≤ m) (m1 : m < 16777216) : ckn c i m / 134217728 = c := by unfold ckn; omega
theorem ckn_i {c i m : Int} (i0 : 0 ≤ i) (i1 : i ≤ 7) (m0 : 0 ≤ m) (m1 : m < 16777216) : ckn c i m / 16777216 % 8 = i := by unfold ckn; omega
/-- among so many -/
def am (n m : Int) : Bool := decide (0 ≤ n ∧ n < m)
theorem am_ok {n m : Int} (h : am n m = true) : 0 ≤ n ∧ n < m := of_decide_eq_true h
end Go.Proofs.Ytfaebenhjilkgaa.ckm
