/- Frames: their cells; the error and the frame that a text is read with; the error and the text that a frame is written with. -/
import Derived.Test.YtfaebenhjilkgaaRows
import Derived.Test.YtfaebenhjilkgaaEthMath
import Derived.WalkKit
import Derived.ProofKit
import Derived.OpenShut
import Derived.ShutString
import Derived.WalkSpells
import Derived.WalkLawsBesides
import Derived.Deep.QuietTactic
import Derived.BigQuiet
import Derived.LoopN
import Derived.Below
namespace Go.Proofs.Ytfaebenhjilkgaa.ethb
open Go.ChangeShapes Go.WideShapes Go.ChangeAt Go.RowKit
open Go.Proofs.Ytfaebenhjilkgaa.EM

theorem ret_int {k : IntKind} {a b : Int} (h : a = b) : Ending.returned (.int k a) = .returned (.int k b) := by rw [h]

/-- six bytes of a text, as an address -/
def mac (s : ByteArray) (k : Nat) : Array Value := #[.int .u8 (bt s k), .int .u8 (bt s (k + 1)), .int .u8 (bt s (k + 2)), .int .u8 (bt s (k + 3)), .int .u8 (bt s (k + 4)), .int .u8 (bt s (k + 5))]
/-- a frame's cells -/
abbrev frame (t0 t1 t2 t3 t4 t5 f0 f1 f2 f3 f4 f5 v y : Int) (d : ByteArray) : Array Value :=
  #[.int .u8 t0, .int .u8 t1, .int .u8 t2, .int .u8 t3, .int .u8 t4, .int .u8 t5, .int .u8 f0, .int .u8 f1, .int .u8 f2, .int .u8 f3, .int .u8 f4, .int .u8 f5, .int .i64 v, .int .i64 y, .string d]
/-- the frame that stands in a text, its Vlan, Type and Data told -/
abbrev framed (s : ByteArray) (v y : Int) (d : ByteArray) : Array Value :=
  frame (bt s 0) (bt s 1) (bt s 2) (bt s 3) (bt s 4) (bt s 5) (bt s 6) (bt s 7) (bt s 8) (bt s 9) (bt s 10) (bt s 11) v y d
abbrev zeroF : Array Value := frame 0 0 0 0 0 0 0 0 0 0 0 0 0 0 ⟨#[]⟩

/-- the error that a text is read with, and the frame -/
def rde (s : ByteArray) : Int :=
  if s.size < 14 then 3 else if wd s 12 = 33024 then (if s.size < 18 then 3 else if 4095 < wd s 14 then 4 else if 65553 < s.size then 2 else 0) else if 65549 < s.size then 2 else 0
def rdf (s : ByteArray) : Array Value :=
  if rde s = 0 then (if wd s 12 = 33024 then framed s (wd s 14) (wd s 16) (s.extract 18 s.size) else framed s (-1) (wd s 12) (s.extract 14 s.size)) else zeroF
theorem bdrewN {B : Nat} {a w : World} (h : Below B a w) (n : Nat) : Below B a (w.drewN n) := ⟨h.os, h.tape, h.output, h.size, h.block⟩
theorem ret_frame {f g : Array Value} {a b : Int} (h : f = g) (h' : a = b) : Ending.returned (.tuple #[.agg f, .int .i64 a]) = .returned (.tuple #[.agg g, .int .i64 b]) := by rw [h, h']
/-- the higher and the lower byte of a word -/
def hi8 (n : Int) : UInt8 := UInt8.ofNat (n / 256).toNat
def lo8 (n : Int) : UInt8 := UInt8.ofNat (n % 256).toNat
theorem hi8_at (n : Int) (h0 : 0 ≤ n) (h1 : n ≤ 65535) : ((hi8 n).toNat : Int) = n / 256 := by
  unfold hi8; rw [UInt8.toNat_ofNat']; omega
theorem lo8_at (n : Int) : ((lo8 n).toNat : Int) = n % 256 := by
  unfold lo8; rw [UInt8.toNat_ofNat']; omega
/-- the error that a frame is written with, and its bytes -/
def wre (v y : Int) (n : Nat) : Int :=
  if v < -1 ∨ 4095 < v ∨ y < 0 ∨ 65535 < y then 1 else if v = -1 ∧ y = 33024 then 4 else if 65535 < n then 2 else 0
def tagl (v : Int) : List UInt8 := if v = -1 then [] else [129, 0, hi8 v, lo8 v]
def wrl (t0 t1 t2 t3 t4 t5 f0 f1 f2 f3 f4 f5 : UInt8) (v y : Int) (d : ByteArray) : List UInt8 :=
  [t0, t1, t2, t3, t4, t5, f0, f1, f2, f3, f4, f5] ++ (tagl v ++ ([hi8 y, lo8 y] ++ d.data.toList))
end Go.Proofs.Ytfaebenhjilkgaa.ethb
