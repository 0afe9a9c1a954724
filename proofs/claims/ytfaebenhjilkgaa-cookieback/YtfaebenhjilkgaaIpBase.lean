/- Packets: their cells; the error and the text that a packet is written with; the error and the packet that a text is read with. -/
import Derived.Test.YtfaebenhjilkgaaSumMath
import Derived.Test.YtfaebenhjilkgaaEthBase
namespace Go.Proofs.Ytfaebenhjilkgaa.ipb
open Go.ChangeShapes Go.WideShapes Go.ChangeAt Go.RowKit
open Go.Proofs.Ytfaebenhjilkgaa.EM Go.Proofs.Ytfaebenhjilkgaa.ethb Go.Proofs.Ytfaebenhjilkgaa.SM

/-- a packet -/
structure Pk where
  tos : Int
  id : Int
  wh : Bool
  mo : Bool
  st : Int
  li : Int
  pr : Int
  fr : Int
  to : Int
  o : ByteArray
  d : ByteArray
/-- its cells -/
abbrev Pk.cells (p : Pk) : Array Value := #[.int .i64 p.tos, .int .i64 p.id, .bool p.wh, .bool p.mo, .int .i64 p.st, .int .i64 p.li, .int .i64 p.pr, .int .u32 p.fr, .int .u32 p.to, .string p.o, .string p.d]
def zeroP : Pk := ⟨0, 0, false, false, 0, 0, 0, 0, 0, ⟨#[]⟩, ⟨#[]⟩⟩
/-- addresses that are ones -/
structure Pk.Adr (p : Pk) : Prop where
  f0 : 0 ≤ p.fr
  f1 : p.fr ≤ 4294967295
  t0 : 0 ≤ p.to
  t1 : p.to ≤ 4294967295

/-- the error that a packet is written with -/
def Pk.err (p : Pk) : Int :=
  if p.tos < 0 ∨ 255 < p.tos ∨ p.li < 0 ∨ 255 < p.li ∨ p.pr < 0 ∨ 255 < p.pr ∨ p.id < 0 ∨ 65535 < p.id ∨ p.st < 0 ∨ 8191 < p.st ∨ 40 < p.o.size ∨ p.o.size % 4 ≠ 0 then 1
  else if p.wh = true ∧ (p.mo = true ∨ p.st ≠ 0) then 4 else if 65535 < 20 + p.o.size + p.d.size then 2 else 0
/-- a packet that can be written -/
structure Pk.Ok (p : Pk) : Prop where
  tos0 : 0 ≤ p.tos
  tos1 : p.tos ≤ 255
  li0 : 0 ≤ p.li
  li1 : p.li ≤ 255
  pr0 : 0 ≤ p.pr
  pr1 : p.pr ≤ 255
  id0 : 0 ≤ p.id
  id1 : p.id ≤ 65535
  st0 : 0 ≤ p.st
  st1 : p.st ≤ 8191
  o1 : p.o.size ≤ 40
  o4 : p.o.size % 4 = 0
  form : p.wh = true → p.mo = false ∧ p.st = 0
  all : 20 + p.o.size + p.d.size ≤ 65535
theorem Pk.ok {p : Pk} (h : p.err = 0) : p.Ok := by
  unfold Pk.err at h
  split at h
  · omega
  · split at h
    · omega
    · split at h
      · omega
      · rename_i h1 h2 h3
        refine ⟨by omega, by omega, by omega, by omega, by omega, by omega, by omega, by omega, by omega, by omega, by omega, by omega, fun hw => ?_, by omega⟩
        refine ⟨?_, ?_⟩
        · cases hm : p.mo
          · rfl
          · exact absurd ⟨hw, Or.inl hm⟩ h2
        · by_cases hs : p.st = 0
          · exact hs
          · exact absurd ⟨hw, Or.inr hs⟩ h2
theorem Pk.Ok.err {p : Pk} (h : p.Ok) : p.err = 0 := by
  have := h.tos0; have := h.tos1; have := h.li0; have := h.li1; have := h.pr0; have := h.pr1; have := h.id0; have := h.id1; have := h.st0; have := h.st1; have := h.o1; have := h.o4; have := h.all
  unfold Pk.err
  rw [if_neg (by omega), if_neg, if_neg (by omega)]
  rintro ⟨hw, h2⟩
  have := h.form hw
  rcases h2 with h2 | h2
  · rw [this.1] at h2; cases h2
  · exact h2 this.2
/-- a number's lowest byte -/
def b8 (x : Int) : UInt8 := UInt8.ofNat (x % 256).toNat
theorem b8_at (x : Int) : ((b8 x).toNat : Int) = x % 256 := by unfold b8; rw [UInt8.toNat_ofNat']; omega
/-- the word of Whole, More and Start -/
def Pk.fl (p : Pk) : Int := p.st + (if p.wh = true then 16384 else 0) + (if p.mo = true then 8192 else 0)
theorem Pk.Ok.fl_bd {p : Pk} (h : p.Ok) : 0 ≤ p.fl ∧ p.fl ≤ 16384 := by
  unfold Pk.fl
  have := h.st0; have := h.st1
  by_cases hw : p.wh = true
  · have := h.form hw
    rw [if_pos hw, this.1, this.2]; simp
  · rw [if_neg hw]; split <;> omega
/-- the ten bytes ahead of CHECK -/
def Pk.h1 (p : Pk) : List UInt8 := [b8 (69 + (p.o.size / 4 : Nat)), b8 p.tos, hi8 (20 + p.o.size + p.d.size : Nat), lo8 (20 + p.o.size + p.d.size : Nat), hi8 p.id, lo8 p.id, hi8 p.fl, lo8 p.fl, b8 p.li, b8 p.pr]
/-- four bytes of an address -/
def adr (a : Int) : List UInt8 := [hi8 (a / 65536), lo8 (a / 65536), hi8 (a % 65536), lo8 (a % 65536)]
/-- the bytes behind CHECK, ahead of Data -/
def Pk.h2 (p : Pk) : List UInt8 := adr p.fr ++ (adr p.to ++ p.o.data.toList)
def Pk.ck (p : Pk) : Int := 65535 - wsum 0 (p.h1 ++ (0 :: 0 :: p.h2))
/-- the bytes of a packet -/
def Pk.txt (p : Pk) : List UInt8 := p.h1 ++ (hi8 p.ck :: lo8 p.ck :: (p.h2 ++ p.d.data.toList))
theorem Pk.ck_bd (p : Pk) : 0 ≤ p.ck ∧ p.ck ≤ 65535 := by
  unfold Pk.ck; have := wsum_bd 0 (p.h1 ++ (0 :: 0 :: p.h2)) (by omega) (by omega); omega
/-- what Write answers -/
def Pk.out (p : Pk) : ByteArray := if p.err = 0 then ⟨p.txt.toArray⟩ else ⟨#[]⟩

/-- how many bytes the first one says, and the word of how many there are -/
def hn (s : ByteArray) : Nat := 4 * ((bt s 0).toNat % 16)
def an (s : ByteArray) : Nat := (wd s 2).toNat
/-- the packet that stands in a text -/
def rdp (s : ByteArray) : Pk :=
  ⟨bt s 1, wd s 4, decide (wd s 6 / 16384 % 2 = 1), decide (wd s 6 / 8192 % 2 = 1), wd s 6 % 8192, bt s 8, bt s 9, 65536 * wd s 12 + wd s 14, 65536 * wd s 16 + wd s 18, s.extract 20 (hn s), s.extract (hn s) (an s)⟩
/-- the error that a text is read with -/
def ire (s : ByteArray) : Int :=
  if s.size < 20 then 3 else if s.size < hn s ∨ s.size < an s then 3 else if bt s 0 < 69 ∨ 79 < bt s 0 ∨ an s < hn s ∨ 32768 ≤ wd s 6 then 4
  else if (rdp s).err ≠ 0 then 4 else if wsum 0 (s.data.toList.take (hn s)) ≠ 65535 then 5 else 0
def ird (s : ByteArray) : Pk := if ire s = 0 then rdp s else zeroP
theorem ret_pk {p q : Pk} {a b : Int} (h : p = q) (h' : a = b) : Ending.returned (.tuple #[.agg p.cells, .int .i64 a]) = .returned (.tuple #[.agg q.cells, .int .i64 b]) := by rw [h, h']
theorem ret_text {s s' : ByteArray} {a b : Int} (h : s = s') (h' : a = b) : Ending.returned (.tuple #[.string s, .int .i64 a]) = .returned (.tuple #[.string s', .int .i64 b]) := by rw [h, h']
theorem ret_u32 {x y a b : Int} (h : x = y) (h' : a = b) : Ending.returned (.tuple #[.int .u32 x, .int .i64 a]) = .returned (.tuple #[.int .u32 y, .int .i64 b]) := by rw [h, h']
end Go.Proofs.Ytfaebenhjilkgaa.ipb
