/- Letters and notes: their cells; the error and the text that each is written with; the error, letter or note that a text is read with. -/
import Derived.Test.YtpcknkpddinccaaDoorIpMath
import Derived.Test.YtpcknkpddinccaaDoorOneMath
namespace Go.Proofs.YtpcknkpddinccaaDoor.dgb
open Go.ChangeShapes Go.WideShapes Go.ChangeAt Go.RowKit
open Go.Proofs.YtpcknkpddinccaaDoor.EM Go.Proofs.YtpcknkpddinccaaDoor.ethb Go.Proofs.YtpcknkpddinccaaDoor.SM Go.Proofs.YtpcknkpddinccaaDoor.ipb Go.Proofs.YtpcknkpddinccaaDoor.ipm Go.Proofs.YtpcknkpddinccaaDoor.onem

/-- a letter -/
structure Lt where
  fr : Int
  to : Int
  d : ByteArray
abbrev Lt.cells (l : Lt) : Array Value := #[.int .i64 l.fr, .int .i64 l.to, .string l.d]
def zeroL : Lt := ⟨0, 0, ⟨#[]⟩⟩
/-- the error that a letter is written with -/
def Lt.err (l : Lt) : Int := if l.fr < 0 ∨ 65535 < l.fr ∨ l.to < 0 ∨ 65535 < l.to then 1 else if 65507 < l.d.size then 2 else 0
structure Lt.Ok (l : Lt) : Prop where
  f0 : 0 ≤ l.fr
  f1 : l.fr ≤ 65535
  t0 : 0 ≤ l.to
  t1 : l.to ≤ 65535
  d1 : l.d.size ≤ 65507
theorem Lt.ok {l : Lt} (h : l.err = 0) : l.Ok := by
  unfold Lt.err at h
  split at h
  · omega
  · split at h
    · omega
    · exact ⟨by omega, by omega, by omega, by omega, by omega⟩
theorem Lt.Ok.err {l : Lt} (h : l.Ok) : l.err = 0 := by
  have := h.f0; have := h.f1; have := h.t0; have := h.t1; have := h.d1
  unfold Lt.err
  rw [if_neg (by omega), if_neg (by omega)]
/-- the twelve bytes ahead -/
def und (f t p n : Int) : List UInt8 := adr f ++ (adr t ++ [0, b8 p, hi8 (n % 65536), lo8 (n % 65536)])
theorem und_len (f t p n : Int) : (und f t p n).length = 12 := by simp [und, adr]
/-- the six bytes ahead of CHECK -/
def Lt.h1 (l : Lt) : List UInt8 := [hi8 l.fr, lo8 l.fr, hi8 l.to, lo8 l.to, hi8 (8 + l.d.size : Nat), lo8 (8 + l.d.size : Nat)]
theorem Lt.h1_len (l : Lt) : l.h1.length = 6 := by simp [Lt.h1]
/-- what CHECK would be, and what it is -/
def Lt.c0 (l : Lt) (f t : Int) : Int := 65535 - wsum 0 (und f t 17 (8 + l.d.size : Nat) ++ (l.h1 ++ (0 :: 0 :: l.d.data.toList)))
def Lt.ck (l : Lt) (f t : Int) : Int := if l.c0 f t = 0 then 65535 else l.c0 f t
/-- the bytes of a letter -/
def Lt.txt (l : Lt) (f t : Int) : List UInt8 := l.h1 ++ (hi8 (l.ck f t) :: lo8 (l.ck f t) :: l.d.data.toList)
def Lt.out (l : Lt) (f t : Int) : ByteArray := if l.err = 0 then ⟨(l.txt f t).toArray⟩ else ⟨#[]⟩
theorem Lt.c0_bd (l : Lt) (f t : Int) : 0 ≤ l.c0 f t ∧ l.c0 f t ≤ 65535 := by
  unfold Lt.c0; have := wsum_bd 0 (und f t 17 (8 + l.d.size : Nat) ++ (l.h1 ++ (0 :: 0 :: l.d.data.toList))) (by omega) (by omega); omega
theorem Lt.ck_bd (l : Lt) (f t : Int) : 1 ≤ l.ck f t ∧ l.ck f t ≤ 65535 := by
  have := l.c0_bd f t
  unfold Lt.ck; split <;> omega
theorem Lt.txt_len (l : Lt) (f t : Int) : (l.txt f t).length = 8 + l.d.size := by simp [Lt.txt, Lt.h1]; omega

/-- how many bytes a text says it has -/
def ln (s : ByteArray) : Nat := (wd s 4).toNat
/-- the error that a text is read with, and the letter -/
def rle (s : ByteArray) (f t : Int) : Int :=
  if s.size < 8 then 3 else if s.size < ln s then 3 else if ln s < 8 ∨ 65515 < ln s then 4
  else if wd s 6 ≠ 0 ∧ wsum 0 (und f t 17 (ln s) ++ s.data.toList.take (ln s)) ≠ 65535 then 5 else 0
def rdl (s : ByteArray) : Lt := ⟨wd s 0, wd s 2, s.extract 8 (ln s)⟩
def rl (s : ByteArray) (f t : Int) : Lt := if rle s f t = 0 then rdl s else zeroL

/-- a note -/
structure Nt where
  ki : Int
  co : Int
  r0 : UInt8
  r1 : UInt8
  r2 : UInt8
  r3 : UInt8
  d : ByteArray
abbrev Nt.cells (n : Nt) : Array Value := #[.int .i64 n.ki, .int .i64 n.co, .int .u8 (n.r0.toNat : Int), .int .u8 (n.r1.toNat : Int), .int .u8 (n.r2.toNat : Int), .int .u8 (n.r3.toNat : Int), .string n.d]
def zeroN : Nt := ⟨0, 0, 0, 0, 0, 0, ⟨#[]⟩⟩
def Nt.err (n : Nt) : Int := if n.ki < 0 ∨ 255 < n.ki ∨ n.co < 0 ∨ 255 < n.co then 1 else if 65507 < n.d.size then 2 else 0
structure Nt.Ok (n : Nt) : Prop where
  k0 : 0 ≤ n.ki
  k1 : n.ki ≤ 255
  c0 : 0 ≤ n.co
  c1 : n.co ≤ 255
  d1 : n.d.size ≤ 65507
theorem Nt.ok {n : Nt} (h : n.err = 0) : n.Ok := by
  unfold Nt.err at h
  split at h
  · omega
  · split at h
    · omega
    · exact ⟨by omega, by omega, by omega, by omega, by omega⟩
theorem Nt.Ok.err {n : Nt} (h : n.Ok) : n.err = 0 := by
  have := h.k0; have := h.k1; have := h.c0; have := h.c1; have := h.d1
  unfold Nt.err
  rw [if_neg (by omega), if_neg (by omega)]
def Nt.tl (n : Nt) : List UInt8 := n.r0 :: n.r1 :: n.r2 :: n.r3 :: n.d.data.toList
def Nt.ck (n : Nt) : Int := 65535 - wsum 0 (b8 n.ki :: b8 n.co :: 0 :: 0 :: n.tl)
def Nt.txt (n : Nt) : List UInt8 := b8 n.ki :: b8 n.co :: hi8 n.ck :: lo8 n.ck :: n.tl
def Nt.out (n : Nt) : ByteArray := if n.err = 0 then ⟨n.txt.toArray⟩ else ⟨#[]⟩
theorem Nt.ck_bd (n : Nt) : 0 ≤ n.ck ∧ n.ck ≤ 65535 := by
  unfold Nt.ck; have := wsum_bd 0 (b8 n.ki :: b8 n.co :: 0 :: 0 :: n.tl) (by omega) (by omega); omega
theorem Nt.txt_len (n : Nt) : n.txt.length = 8 + n.d.size := by simp [Nt.txt, Nt.tl]; omega
def bb (s : ByteArray) (k : Nat) : UInt8 := s.data.toList.getD k 0
theorem bb_at (s : ByteArray) (k : Nat) : ((bb s k).toNat : Int) = bt s k := rfl
def rne (s : ByteArray) : Int := if s.size < 8 then 3 else if 65515 < s.size then 2 else if wsum 0 s.data.toList ≠ 65535 then 5 else 0
def rdn (s : ByteArray) : Nt := ⟨bt s 0, bt s 1, bb s 4, bb s 5, bb s 6, bb s 7, s.extract 8 s.size⟩
def rn (s : ByteArray) : Nt := if rne s = 0 then rdn s else zeroN
theorem ret_lt {p q : Lt} {a b : Int} (h : p = q) (h' : a = b) : Ending.returned (.tuple #[.agg p.cells, .int .i64 a]) = .returned (.tuple #[.agg q.cells, .int .i64 b]) := by rw [h, h']
theorem ret_nt {p q : Nt} {a b : Int} (h : p = q) (h' : a = b) : Ending.returned (.tuple #[.agg p.cells, .int .i64 a]) = .returned (.tuple #[.agg q.cells, .int .i64 b]) := by rw [h, h']
end Go.Proofs.YtpcknkpddinccaaDoor.dgb
