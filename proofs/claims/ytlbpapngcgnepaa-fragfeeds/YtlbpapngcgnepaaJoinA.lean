/- SumMath, EthMath, EthBase, IpBase, Boxes, Rws, FragBase, Class, Ab, FragPool, PoolLaws, joined. -/
import Derived.Laws.BitsAllLaws
import Derived.WalkKit
import Derived.Test.YtlbpapngcgnepaaRows
import Derived.ProofKit
import Derived.OpenShut
import Derived.ShutString
import Derived.WalkSpells
import Derived.WalkLawsBesides
import Derived.Deep.QuietTactic
import Derived.BigQuiet
import Derived.LoopN
import Derived.Below
import Derived.Laws.Rows
import Derived.Laws.ResultCell
import Derived.Lib.SmallJoins
import Derived.Deep.Draws
import Derived.OwnWalk
import Derived.Laws.OwnMore
/- Plain mathematics of end-around sums: the sum of words, one by one, is a remainder by 65535 that is told as 65535 instead of 0 unless all is 0. No program is named here. -/
namespace Go.Proofs.Ytlbpapngcgnepaa.SM

/-- two words, end-around -/
def ea (a b : Int) : Int := if a + b > 65535 then a + b - 65535 else a + b
/-- a sum over bytes, the higher one first, one by one -/
def wsum : Int → List UInt8 → Int
  | n, [] => n
  | n, [b] => ea n (256 * (b.toNat : Int))
  | n, b :: c :: r => wsum (ea n (256 * (b.toNat : Int) + (c.toNat : Int))) r
/-- the plain sum of words -/
def pw : List UInt8 → Int
  | [] => 0
  | [b] => 256 * (b.toNat : Int)
  | b :: c :: r => 256 * (b.toNat : Int) + (c.toNat : Int) + pw r
/-- 0, or from 1 to 65535 -/
def norm (x : Int) : Int := if x = 0 then 0 else (x - 1) % 65535 + 1

theorem ea_norm (n b : Int) (h0 : 0 ≤ n) (h1 : n ≤ 65535) (h2 : 0 ≤ b) (h3 : b ≤ 65535) : ea n b = norm (n + b) := by
  unfold ea norm; split <;> split <;> omega
theorem norm_bd (x : Int) : 0 ≤ norm x ∧ norm x ≤ 65535 := by
  unfold norm; split <;> omega
theorem norm_add (x y : Int) (hx : 0 ≤ x) (hy : 0 ≤ y) : norm (norm x + y) = norm (x + y) := by
  unfold norm; split <;> split <;> split <;> omega
theorem norm_id (x : Int) (h0 : 0 ≤ x) (h1 : x ≤ 65535) : norm x = x := by
  unfold norm; split <;> omega
theorem ea_bd (n b : Int) (h0 : 0 ≤ n) (h1 : n ≤ 65535) (h2 : 0 ≤ b) (h3 : b ≤ 65535) : 0 ≤ ea n b ∧ ea n b ≤ 65535 := by
  unfold ea; split <;> omega
theorem byte_bd (b : UInt8) : 0 ≤ (b.toNat : Int) ∧ (b.toNat : Int) ≤ 255 := by
  have := b.toNat_lt; omega
theorem pw_nonneg : ∀ l, 0 ≤ pw l
  | [] => by simp [pw]
  | [b] => by simp only [pw]; have := byte_bd b; omega
  | b :: c :: r => by simp only [pw]; have := pw_nonneg r; have := byte_bd b; have := byte_bd c; omega
theorem wsum_norm : ∀ (n : Int) (l : List UInt8), 0 ≤ n → n ≤ 65535 → wsum n l = norm (n + pw l)
  | n, [], h0, h1 => by simp only [wsum, pw]; rw [Int.add_zero, norm_id n h0 h1]
  | n, [b], h0, h1 => by simp only [wsum, pw]; have := byte_bd b; exact ea_norm _ _ h0 h1 (by omega) (by omega)
  | n, b :: c :: r, h0, h1 => by
      have hb := byte_bd b; have hc := byte_bd c; have hr := pw_nonneg r
      have he := ea_bd n (256 * (b.toNat : Int) + (c.toNat : Int)) h0 h1 (by omega) (by omega)
      simp only [wsum, pw]
      rw [wsum_norm _ r he.1 he.2, ea_norm _ _ h0 h1 (by omega) (by omega), norm_add _ _ (by omega) hr]
      congr 1; omega
theorem wsum_bd (n : Int) (l : List UInt8) (h0 : 0 ≤ n) (h1 : n ≤ 65535) : 0 ≤ wsum n l ∧ wsum n l ≤ 65535 := by
  rw [wsum_norm n l h0 h1]; exact norm_bd _
theorem pw_append : ∀ (a b : List UInt8), a.length % 2 = 0 → pw (a ++ b) = pw a + pw b
  | [], b, _ => by simp [pw]
  | [x], b, h => by simp at h
  | x :: y :: r, b, h => by
      have : (r.length) % 2 = 0 := by simp only [List.length_cons] at h; omega
      simp only [List.cons_append, pw]; rw [pw_append r b this]; omega
/-- the even prefix and what is left: a round of the loop -/
theorem wsum_step (n : Int) (l : List UInt8) (i : Nat) (h : i + 1 < l.length) :
    wsum n (l.drop i) = wsum (ea n (256 * ((l[i]'(by omega)).toNat : Int) + (l[i + 1].toNat : Int))) (l.drop (i + 2)) := by
  rw [List.drop_eq_getElem_cons (by omega : i < l.length), List.drop_eq_getElem_cons h, wsum]
theorem wsum_last (n : Int) (l : List UInt8) (i : Nat) (h : i < l.length) (h1 : l.length = i + 1) :
    wsum n (l.drop i) = ea n (256 * (l[i].toNat : Int)) := by
  rw [List.drop_eq_getElem_cons h, List.drop_eq_nil_of_le (by omega : l.length ≤ i + 1), wsum]
theorem wsum_end (n : Int) (l : List UInt8) (i : Nat) (h : l.length ≤ i) : wsum n (l.drop i) = n := by
  rw [List.drop_eq_nil_of_le h, wsum]

theorem word_or (a b : Int) (h0 : 0 ≤ a) (h1 : a ≤ 255) (h2 : 0 ≤ b) (h3 : b ≤ 255) : bits .or .u16 (a * 256) b = 256 * a + b := by
  rw [u16_or _ _ (by omega) (by omega) h2 (by omega)]
  rw [nat_join 8 _ _ (by omega) (by omega)]
  omega
end Go.Proofs.Ytlbpapngcgnepaa.SM
/- Plain mathematics of frames: bytes by their places, words. -/
namespace Go.Proofs.Ytlbpapngcgnepaa.EM

/-- the byte of a text at a place, as a number -/
def bt (s : ByteArray) (k : Nat) : Int := ((s.data.toList.getD k 0).toNat : Int)
theorem bt_bd (s : ByteArray) (k : Nat) : 0 ≤ bt s k ∧ bt s k ≤ 255 := by
  unfold bt; have := (s.data.toList.getD k 0).toNat_lt; omega
theorem bt_at (s : ByteArray) (k : Nat) (h : k < s.size) : (s[k].toNat : Int) = bt s k := by
  unfold bt
  have hl : k < s.data.toList.length := by simpa using h
  rw [List.getD_eq_getElem?_getD, List.getElem?_eq_getElem hl]
  rfl
/-- the word at a place, the higher byte first -/
def wd (s : ByteArray) (k : Nat) : Int := 256 * bt s k + bt s (k + 1)
theorem wd_bd (s : ByteArray) (k : Nat) : 0 ≤ wd s k ∧ wd s k ≤ 65535 := by
  unfold wd; have := bt_bd s k; have := bt_bd s (k + 1); omega
theorem i64_or_nat (a b : Nat) (ha : a < 4611686018427387904) (hb : b < 4611686018427387904) : bits .or .i64 (a : Int) (b : Int) = ((a ||| b : Nat) : Int) := by
  have hx : a ||| b < 2 ^ 62 := Nat.or_lt_two_pow (by omega) (by omega)
  show IntKind.i64.wrap ((BitVec.ofInt 64 (a : Int) ||| BitVec.ofInt 64 (b : Int)).toNat : Int) = _
  rw [BitVec.toNat_or, ofInt_u64 a (by omega), ofInt_u64 b (by omega), IntKind.wrap_i64]
  omega
theorem i64_or (a b : Int) (h1 : 0 ≤ a) (h2 : a < 4611686018427387904) (h3 : 0 ≤ b) (h4 : b < 4611686018427387904) : bits .or .i64 a b = ((a.toNat ||| b.toNat : Nat) : Int) := by
  obtain ⟨A, rfl⟩ := Int.eq_ofNat_of_zero_le h1
  obtain ⟨B, rfl⟩ := Int.eq_ofNat_of_zero_le h3
  simpa using i64_or_nat A B (by omega) (by omega)
theorem or_word (a b : Int) (h0 : 0 ≤ a) (h1 : a ≤ 255) (h2 : 0 ≤ b) (h3 : b ≤ 255) : bits .or .i64 (a * 256) b = 256 * a + b := by
  rw [i64_or _ _ (by omega) (by omega) h2 (by omega)]
  rw [nat_join 8 _ _ (by omega) (by omega)]
  omega
end Go.Proofs.Ytlbpapngcgnepaa.EM
/- Frames: their cells; the error and the frame that a text is read with; the error and the text that a frame is written with. -/
namespace Go.Proofs.Ytlbpapngcgnepaa.ethb
open Go.ChangeShapes Go.WideShapes Go.ChangeAt Go.RowKit
open Go.Proofs.Ytlbpapngcgnepaa.EM

theorem ret_int {k : IntKind} {a b : Int} (h : a = b) : Ending.returned (.int k a) = .returned (.int k b) := by rw [h]

/-- six bytes of a text, as an address -/
def mac (s : ByteArray) (k : Nat) : Array Value := #[.int .u8 (bt s k), .int .u8 (bt s (k + 1)), .int .u8 (bt s (k + 2)), .int .u8 (bt s (k + 3)), .int .u8 (bt s (k + 4)), .int .u8 (bt s (k + 5))]
/-- a frame's cells -/
abbrev frame (t0 t1 t2 t3 t4 t5 f0 f1 f2 f3 f4 f5 v y : Int) (d : ByteArray) : Array Value :=
  #[.int .u8 t0, .int .u8 t1, .int .u8 t2, .int .u8 t3, .int .u8 t4, .int .u8 t5, .int .u8 f0, .int .u8 f1, .int .u8 f2, .int .u8 f3, .int .u8 f4, .int .u8 f5, .int .i64 v, .int .i64 y, .string d]
/-- the frame that stands in a text, its Vlan, Type and Data told -/
abbrev framed (s : ByteArray) (v y : Int) (d : ByteArray) : Array Value :=
  frame (bt s 0) (bt s 1) (bt s 2) (bt s 3) (bt s 4) (bt s 5) (bt s 6) (bt s 7) (bt s 8) (bt s 9) (bt s 10) (bt s 11) v y d
abbrev zeroF : Array Value := frame 0 0 0 0 0 0 0 0 0 0 0 0 0 0 ⟨#[]⟩

/-- the error that a text is read with, and the frame -/
def rde (s : ByteArray) : Int :=
  if s.size < 14 then 3 else if wd s 12 = 33024 then (if s.size < 18 then 3 else if 4095 < wd s 14 then 4 else if 65553 < s.size then 2 else 0) else if 65549 < s.size then 2 else 0
def rdf (s : ByteArray) : Array Value :=
  if rde s = 0 then (if wd s 12 = 33024 then framed s (wd s 14) (wd s 16) (s.extract 18 s.size) else framed s (-1) (wd s 12) (s.extract 14 s.size)) else zeroF
theorem bdrewN {B : Nat} {a w : World} (h : Below B a w) (n : Nat) : Below B a (w.drewN n) := ⟨h.os, h.tape, h.output, h.size, h.block⟩
theorem ret_frame {f g : Array Value} {a b : Int} (h : f = g) (h' : a = b) : Ending.returned (.tuple #[.agg f, .int .i64 a]) = .returned (.tuple #[.agg g, .int .i64 b]) := by rw [h, h']
/-- the higher and the lower byte of a word -/
def hi8 (n : Int) : UInt8 := UInt8.ofNat (n / 256).toNat
def lo8 (n : Int) : UInt8 := UInt8.ofNat (n % 256).toNat
theorem hi8_at (n : Int) (h0 : 0 ≤ n) (h1 : n ≤ 65535) : ((hi8 n).toNat : Int) = n / 256 := by
  unfold hi8; rw [UInt8.toNat_ofNat']; omega
theorem lo8_at (n : Int) : ((lo8 n).toNat : Int) = n % 256 := by
  unfold lo8; rw [UInt8.toNat_ofNat']; omega
/-- the error that a frame is written with, and its bytes -/
def wre (v y : Int) (n : Nat) : Int :=
  if v < -1 ∨ 4095 < v ∨ y < 0 ∨ 65535 < y then 1 else if v = -1 ∧ y = 33024 then 4 else if 65535 < n then 2 else 0
def tagl (v : Int) : List UInt8 := if v = -1 then [] else [129, 0, hi8 v, lo8 v]
def wrl (t0 t1 t2 t3 t4 t5 f0 f1 f2 f3 f4 f5 : UInt8) (v y : Int) (d : ByteArray) : List UInt8 :=
  [t0, t1, t2, t3, t4, t5, f0, f1, f2, f3, f4, f5] ++ (tagl v ++ ([hi8 y, lo8 y] ++ d.data.toList))
end Go.Proofs.Ytlbpapngcgnepaa.ethb
/- Packets: their cells; the error and the text that a packet is written with; the error and the packet that a text is read with. -/
namespace Go.Proofs.Ytlbpapngcgnepaa.ipb
open Go.ChangeShapes Go.WideShapes Go.ChangeAt Go.RowKit
open Go.Proofs.Ytlbpapngcgnepaa.EM Go.Proofs.Ytlbpapngcgnepaa.ethb Go.Proofs.Ytlbpapngcgnepaa.SM

/-- a packet -/
structure Pk where
  tos : Int
  id : Int
  wh : Bool
  mo : Bool
  st : Int
  li : Int
  pr : Int
  fr : Int
  to : Int
  o : ByteArray
  d : ByteArray
/-- its cells -/
abbrev Pk.cells (p : Pk) : Array Value := #[.int .i64 p.tos, .int .i64 p.id, .bool p.wh, .bool p.mo, .int .i64 p.st, .int .i64 p.li, .int .i64 p.pr, .int .u32 p.fr, .int .u32 p.to, .string p.o, .string p.d]
def zeroP : Pk := ⟨0, 0, false, false, 0, 0, 0, 0, 0, ⟨#[]⟩, ⟨#[]⟩⟩
/-- addresses that are ones -/
structure Pk.Adr (p : Pk) : Prop where
  f0 : 0 ≤ p.fr
  f1 : p.fr ≤ 4294967295
  t0 : 0 ≤ p.to
  t1 : p.to ≤ 4294967295

/-- the error that a packet is written with -/
def Pk.err (p : Pk) : Int :=
  if p.tos < 0 ∨ 255 < p.tos ∨ p.li < 0 ∨ 255 < p.li ∨ p.pr < 0 ∨ 255 < p.pr ∨ p.id < 0 ∨ 65535 < p.id ∨ p.st < 0 ∨ 8191 < p.st ∨ 40 < p.o.size ∨ p.o.size % 4 ≠ 0 then 1
  else if p.wh = true ∧ (p.mo = true ∨ p.st ≠ 0) then 4 else if 65535 < 20 + p.o.size + p.d.size then 2 else 0
/-- a packet that can be written -/
structure Pk.Ok (p : Pk) : Prop where
  tos0 : 0 ≤ p.tos
  tos1 : p.tos ≤ 255
  li0 : 0 ≤ p.li
  li1 : p.li ≤ 255
  pr0 : 0 ≤ p.pr
  pr1 : p.pr ≤ 255
  id0 : 0 ≤ p.id
  id1 : p.id ≤ 65535
  st0 : 0 ≤ p.st
  st1 : p.st ≤ 8191
  o1 : p.o.size ≤ 40
  o4 : p.o.size % 4 = 0
  form : p.wh = true → p.mo = false ∧ p.st = 0
  all : 20 + p.o.size + p.d.size ≤ 65535
theorem Pk.ok {p : Pk} (h : p.err = 0) : p.Ok := by
  unfold Pk.err at h
  split at h
  · omega
  · split at h
    · omega
    · split at h
      · omega
      · rename_i h1 h2 h3
        refine ⟨by omega, by omega, by omega, by omega, by omega, by omega, by omega, by omega, by omega, by omega, by omega, by omega, fun hw => ?_, by omega⟩
        refine ⟨?_, ?_⟩
        · cases hm : p.mo
          · rfl
          · exact absurd ⟨hw, Or.inl hm⟩ h2
        · by_cases hs : p.st = 0
          · exact hs
          · exact absurd ⟨hw, Or.inr hs⟩ h2
theorem Pk.Ok.err {p : Pk} (h : p.Ok) : p.err = 0 := by
  have := h.tos0; have := h.tos1; have := h.li0; have := h.li1; have := h.pr0; have := h.pr1; have := h.id0; have := h.id1; have := h.st0; have := h.st1; have := h.o1; have := h.o4; have := h.all
  unfold Pk.err
  rw [if_neg (by omega), if_neg, if_neg (by omega)]
  rintro ⟨hw, h2⟩
  have := h.form hw
  rcases h2 with h2 | h2
  · rw [this.1] at h2; cases h2
  · exact h2 this.2
/-- a number's lowest byte -/
def b8 (x : Int) : UInt8 := UInt8.ofNat (x % 256).toNat
theorem b8_at (x : Int) : ((b8 x).toNat : Int) = x % 256 := by unfold b8; rw [UInt8.toNat_ofNat']; omega
/-- the word of Whole, More and Start -/
def Pk.fl (p : Pk) : Int := p.st + (if p.wh = true then 16384 else 0) + (if p.mo = true then 8192 else 0)
theorem Pk.Ok.fl_bd {p : Pk} (h : p.Ok) : 0 ≤ p.fl ∧ p.fl ≤ 16384 := by
  unfold Pk.fl
  have := h.st0; have := h.st1
  by_cases hw : p.wh = true
  · have := h.form hw
    rw [if_pos hw, this.1, this.2]; simp
  · rw [if_neg hw]; split <;> omega
/-- the ten bytes ahead of CHECK -/
def Pk.h1 (p : Pk) : List UInt8 := [b8 (69 + (p.o.size / 4 : Nat)), b8 p.tos, hi8 (20 + p.o.size + p.d.size : Nat), lo8 (20 + p.o.size + p.d.size : Nat), hi8 p.id, lo8 p.id, hi8 p.fl, lo8 p.fl, b8 p.li, b8 p.pr]
/-- four bytes of an address -/
def adr (a : Int) : List UInt8 := [hi8 (a / 65536), lo8 (a / 65536), hi8 (a % 65536), lo8 (a % 65536)]
/-- the bytes behind CHECK, ahead of Data -/
def Pk.h2 (p : Pk) : List UInt8 := adr p.fr ++ (adr p.to ++ p.o.data.toList)
def Pk.ck (p : Pk) : Int := 65535 - wsum 0 (p.h1 ++ (0 :: 0 :: p.h2))
/-- the bytes of a packet -/
def Pk.txt (p : Pk) : List UInt8 := p.h1 ++ (hi8 p.ck :: lo8 p.ck :: (p.h2 ++ p.d.data.toList))
theorem Pk.ck_bd (p : Pk) : 0 ≤ p.ck ∧ p.ck ≤ 65535 := by
  unfold Pk.ck; have := wsum_bd 0 (p.h1 ++ (0 :: 0 :: p.h2)) (by omega) (by omega); omega
/-- what Write answers -/
def Pk.out (p : Pk) : ByteArray := if p.err = 0 then ⟨p.txt.toArray⟩ else ⟨#[]⟩

/-- how many bytes the first one says, and the word of how many there are -/
def hn (s : ByteArray) : Nat := 4 * ((bt s 0).toNat % 16)
def an (s : ByteArray) : Nat := (wd s 2).toNat
/-- the packet that stands in a text -/
def rdp (s : ByteArray) : Pk :=
  ⟨bt s 1, wd s 4, decide (wd s 6 / 16384 % 2 = 1), decide (wd s 6 / 8192 % 2 = 1), wd s 6 % 8192, bt s 8, bt s 9, 65536 * wd s 12 + wd s 14, 65536 * wd s 16 + wd s 18, s.extract 20 (hn s), s.extract (hn s) (an s)⟩
/-- the error that a text is read with -/
def ire (s : ByteArray) : Int :=
  if s.size < 20 then 3 else if s.size < hn s ∨ s.size < an s then 3 else if bt s 0 < 69 ∨ 79 < bt s 0 ∨ an s < hn s ∨ 32768 ≤ wd s 6 then 4
  else if (rdp s).err ≠ 0 then 4 else if wsum 0 (s.data.toList.take (hn s)) ≠ 65535 then 5 else 0
def ird (s : ByteArray) : Pk := if ire s = 0 then rdp s else zeroP
theorem ret_pk {p q : Pk} {a b : Int} (h : p = q) (h' : a = b) : Ending.returned (.tuple #[.agg p.cells, .int .i64 a]) = .returned (.tuple #[.agg q.cells, .int .i64 b]) := by rw [h, h']
theorem ret_text {s s' : ByteArray} {a b : Int} (h : s = s') (h' : a = b) : Ending.returned (.tuple #[.string s, .int .i64 a]) = .returned (.tuple #[.string s', .int .i64 b]) := by rw [h, h']
theorem ret_u32 {x y a b : Int} (h : x = y) (h' : a = b) : Ending.returned (.tuple #[.int .u32 x, .int .i64 a]) = .returned (.tuple #[.int .u32 y, .int .i64 b]) := by rw [h, h']
end Go.Proofs.Ytlbpapngcgnepaa.ipb
/- Blocks that are known whole: how they are kept while calls make others, and while others are written; loads, stores and results of a whole block. -/
namespace Go.Proofs.Ytlbpapngcgnepaa.boxes
open Go.ChangeShapes Go.WideShapes Go.ChangeAt Go.RowKit

/-- block b of W is the cells F, none of them frozen -/
def Blk (W : World) (b : Nat) (F : Array Value) (t : TypeId) : Prop := W.heap[b]? = some (.cells F t (0, 0))
theorem Blk.lt {W : World} {b : Nat} {F : Array Value} {t : TypeId} (h : Blk W b F t) : b < W.heap.size := (Array.getElem?_eq_some_iff.1 h).1
theorem Blk.cell {W : World} {b : Nat} {F : Array Value} {t : TypeId} (h : Blk W b F t) (o : Nat) : W.cell? ⟨b, o, none⟩ = F[o]? := Joins.cell_of_block h o
theorem Blk.free {W : World} {b : Nat} {F : Array Value} {t : TypeId} (h : Blk W b F t) (o : Nat) : W.frozen? ⟨b, o, none⟩ = false := Joins.unfrozen_of_block h o
theorem Blk.newAt (W : World) (F : Array Value) (t : TypeId) {b : Nat} (hb : b = W.heap.size) : Blk (W.alloc (.cells F t)) b F t := by subst hb; exact heap_alloc_new W _
theorem Blk.new (W : World) (F : Array Value) (t : TypeId) : Blk (W.alloc (.cells F t)) W.heap.size F t := heap_alloc_new W _
theorem Blk.alloc {W : World} {b : Nat} {F : Array Value} {t : TypeId} (h : Blk W b F t) (o : Obj) : Blk (W.alloc o) b F t := (Below.heap_alloc W o b h.lt).trans h
theorem Blk.drew {W : World} {b : Nat} {F : Array Value} {t : TypeId} (h : Blk W b F t) : Blk W.drew b F t := h
theorem Blk.drewN {W : World} {b : Nat} {F : Array Value} {t : TypeId} (h : Blk W b F t) (n : Nat) : Blk (W.drewN n) b F t := h
theorem Blk.below {W w' : World} {B b : Nat} {F : Array Value} {t : TypeId} (h : Blk W b F t) (hb : Below B W w') (hB : b < B) : Blk w' b F t := (hb.block b hB).trans h

/-- W' is W but for the block b -/
structure But (b : Nat) (W W' : World) : Prop where
  os : W'.os = W.os
  tape : W'.tape = W.tape
  output : W'.output = W.output
  size : W'.heap.size = W.heap.size
  block : ∀ k, k ≠ b → W'.heap[k]? = W.heap[k]?
theorem But.below {b B : Nat} {w W W' : World} (h : But b W W') (hb : Below B w W) (hB : B ≤ b) : Below B w W' :=
  hb.trans ⟨h.os, h.tape, h.output, by rw [h.size]; exact Nat.le_refl _, fun k hk => h.block k (by omega)⟩
theorem But.blk {b c : Nat} {W W' : World} {F : Array Value} {t : TypeId} (h : But b W W') (k : Blk W c F t) (hc : c ≠ b) : Blk W' c F t := (h.block c hc).trans k
theorem but_setRow (W : World) (b : Nat) (G : Array Value) : But b W (W.setRow b G) := ⟨rfl, rfl, rfl, by simp, fun k hk => setRow_other W b k _ (fun e => hk e)⟩
theorem but_setCell (W : World) (b i : Nat) (v : Value) : But b W (W.setCell ⟨b, i, none⟩ v) :=
  ⟨rfl, rfl, rfl, by simp [World.setCell], fun k hk => Below.heap_setCell W ⟨b, i, none⟩ v k hk⟩
theorem Blk.setCell {W : World} {b : Nat} {F : Array Value} {t : TypeId} (h : Blk W b F t) (i : Nat) (v : Value) : Blk (W.setCell ⟨b, i, none⟩ v) b (F.setIfInBounds i v) t := Joins.block_setCell h v

/-- a struct or an array -/
def wideD (d : TypeDesc) : Bool := match d with | .struct _ | .array _ _ => true | _ => false

section
variable {ops : Array Oper} {rest : List Oper} {o : Oper} {a : Act} {Q : Exit → Act → World → Prop}
/-- a whole block is loaded -/
theorem blk_load (W : World) (hgd : o.guard = none) (ty : TypeId) (x : Operand) (ho : o.op = .load ty x) (b : Nat) (hx : a.eval x = .pointer (some ⟨b, 0, none⟩)) (F : Array Value) (t : TypeId) (h : Blk W b F t)
    (d : TypeDesc) (hu : Try.prog.underlying ty = some d) (hd : wideD d = true) (n : Nat) (hi : (Try.prog.info? ty).map (·.size) = some n) (hn : F.size = n)
    (hK : wpList Try.prog ops Q rest (a.put o.dst (.agg F)) W) : wpList Try.prog ops Q (o :: rest) a W :=
  wpList_load_row hgd ty x ho b hx t F (0, 0) d h hu (by cases d <;> first | rfl | cases hd) (by rw [hn]; exact hi) hK
/-- a whole block is stored -/
theorem blk_store (W : World) (hgd : o.guard = none) (ty : TypeId) (x y : Operand) (ho : o.op = .store ty x y) (b : Nat) (G : Array Value) (hx : a.eval x = .pointer (some ⟨b, 0, none⟩)) (hy : a.eval y = .agg G) (F : Array Value) (t : TypeId) (h : Blk W b F t)
    (n : Nat) (hi : (Try.prog.info? ty).map (·.size) = some n) (hs : F.size = n) (hn : G.size = n) (h1 : G.all (·.oneCell') = true)
    (hK : ∀ W', Blk W' b G t → But b W W' → wpList Try.prog ops Q rest (a.put o.dst undef) W') : wpList Try.prog ops Q (o :: rest) a W :=
  wpList_store_row hgd ty x y ho b G hx hy t F h (by rw [hn]; exact hi) (by rw [hn]; exact hs) h1 (hK _ (setRow_heap W b F G t _ h) (but_setRow W b G))
end

/-- results: a block and a slot -/
theorem blk_ret2 {fn : Func} {p u : Tmp} {ty : TypeId} {R : Ending → World → Prop} {a : Act} {W : World} (h : fn.results = #[.cell p ty, .tmp u]) (hd : a.defers = []) (b : Nat) (F : Array Value) (t : TypeId) (hp : a.tmps.getD p undef = .pointer (some ⟨b, 0, none⟩)) (k : Blk W b F t)
    (d : TypeDesc) (hu : Try.prog.underlying ty = some d) (hdd : wideD d = true) (n : Nat) (hi : (Try.prog.info? ty).map (·.size) = some n) (hn : F.size = n)
    (hR : R (.returned (.tuple #[.agg F, a.tmps.getD u undef])) W) : bodyPost Try.prog fn R .ret a W := by
  refine bodyPost_ret (v := .tuple #[.agg F, a.tmps.getD u undef]) ?_ hd hR
  rw [results_cell_tmp h, hp]
  simp [asAddr, Result.andThen, run_loadVar_row W b t ty F (0, 0) d k hu (by cases d <;> first | rfl | cases hdd) (by rw [hn]; exact hi)]
end Go.Proofs.Ytlbpapngcgnepaa.boxes
/- Rows of structs that the call itself has made: how they are kept, read, and lengthened. -/
namespace Go.Proofs.Ytlbpapngcgnepaa.rws
open Go.ChangeShapes Go.WideShapes Go.ChangeAt Go.RowKit
open Go.Proofs.Ytlbpapngcgnepaa.boxes

/-- a kind of elements: their type, the slice's, how many cells and bytes each has, the zero value, their cells -/
structure Knd (α : Type) where
  e : TypeId
  s : TypeId
  k : Nat
  by_ : Nat
  z : Value
  enc : α → Array Value
  hk : ∀ x, (enc x).size = k
  h1 : ∀ x, (enc x).all (·.oneCell') = true
  pos : 0 < k
  hz : z.cells.size = k
  hs : Try.prog.underlying s = some (.slice e)
  info : (Try.prog.info? e).map (fun i => (i.zero, i.size, i.bytes)) = some (some z, k, by_)

section
variable {α : Type} {K : Knd α}
/-- all their cells -/
def Knd.cs (K : Knd α) (l : List α) : List Value := l.flatMap fun x => (K.enc x).toList
theorem cs_length (K : Knd α) (l : List α) : (K.cs l).length = l.length * K.k := by
  induction l with
  | nil => simp [Knd.cs]
  | cons x r ih =>
    have : K.cs (x :: r) = (K.enc x).toList ++ K.cs r := rfl
    rw [this, List.length_append, ih, Array.length_toList, K.hk, List.length_cons, Nat.add_mul]; omega
theorem cs_append (K : Knd α) (l m : List α) : K.cs (l ++ m) = K.cs l ++ K.cs m := by simp [Knd.cs]
theorem cs_one (K : Knd α) (l : List α) : ∀ u ∈ K.cs l, u.oneCell' = true := by
  intro u hu
  obtain ⟨x, _, hx⟩ := List.mem_flatMap.1 hu
  exact Array.all_eq_true'.1 (K.h1 x) u (by simpa using hx)
theorem cs_at (K : Knd α) : ∀ (l : List α) (j : Nat) (x : α), l[j]? = some x → ∀ i, i < K.k → (K.cs l)[j * K.k + i]? = (K.enc x)[i]? := by
  intro l
  induction l with
  | nil => intro j x h; simp at h
  | cons y r ih =>
    intro j x h i hi
    have e : K.cs (y :: r) = (K.enc y).toList ++ K.cs r := rfl
    rw [e]
    cases j with
    | zero =>
      simp at h; subst h
      rw [List.getElem?_append_left (by rw [Array.length_toList, K.hk]; omega)]
      simp
    | succ j =>
      rw [List.getElem?_append_right (by rw [Array.length_toList, K.hk, Nat.add_mul]; omega), Array.length_toList, K.hk]
      have : (j + 1) * K.k + i - K.k = j * K.k + i := by rw [Nat.add_mul]; omega
      rw [this]
      exact ih j x (by simpa using h) i hi
/-- the slice v, its row among the blocks from B on, holds l -/
def Own (K : Knd α) (w : World) (B : Nat) (v : Value) (l : List α) : Prop := w.ownsRow B K.e K.k v l.length (K.cs l)
theorem Own.nil (K : Knd α) (w : World) (B : Nat) : Own K w B (.slice none 0 0) [] := World.ownsRow_nil w B _ _
theorem Own.alloc {w : World} {B : Nat} {v : Value} {l : List α} (h : Own K w B v l) (o : Obj) : Own K (w.alloc o) B v l := World.ownsRow.alloc h o
theorem Own.drew {w : World} {B : Nat} {v : Value} {l : List α} (h : Own K w B v l) : Own K w.drew B v l := h
theorem Own.drewN {w : World} {B : Nat} {v : Value} {l : List α} (h : Own K w B v l) (n : Nat) : Own K (w.drewN n) B v l := h
theorem Own.kept {w w' : World} {B : Nat} {v : Value} {l : List α} (h : Own K w B v l) (hb : Below w.heap.size w w') : Own K w' B v l :=
  World.ownsRow.kept (row := none) h ⟨hb.os, hb.tape, hb.output, hb.size, fun k hk _ => hb.block k hk⟩ (by cases hv : v.ownBlock <;> simp)
theorem Own.mono {w : World} {B B' : Nat} {v : Value} {l : List α} (h : Own K w B v l) (hb : B' ≤ B) : Own K w B' v l := Joins.ownsRow_le h hb
/-- where another block turns -/
theorem Own.but {w w' : World} {B b : Nat} {v : Value} {l : List α} (h : Own K w B v l) (hb : But b w w') (hne : v.ownBlock ≠ some b) : Own K w' B v l :=
  World.ownsRow.kept (row := some b) h ⟨hb.os, hb.tape, hb.output, by rw [hb.size]; exact Nat.le_refl _, fun k _ hk => hb.block k (fun e => hk (by rw [e]))⟩ (Or.inr hne)
theorem Own.setCell {w : World} {B b i : Nat} {v u : Value} {l : List α} (h : Own K w B v l) (hne : v.ownBlock ≠ some b) : Own K (w.setCell ⟨b, i, none⟩ u) B v l := h.but (but_setCell w b i u) hne
/-- a slice that was built -/
theorem Own.lit (K : Knd α) (w : World) (B : Nat) (hB : B ≤ w.heap.size) (l : List α) (hl : l.length ≤ maxLen) (F : Array Value) (hF : F.toList = K.cs l) :
    Own K (w.alloc (.cells F K.e)) B (.slice (some ⟨w.heap.size, 0, none⟩) l.length l.length) l := by
  have := World.ownsRow_lit (base := B) (e := K.e) (size := K.k) w F l.length hB hl (by rw [← Array.length_toList, hF, cs_length])
  rw [hF] at this
  exact this
/-- its form, and its cells -/
theorem Own.form {w : World} {B : Nat} {v : Value} {l : List α} (h : Own K w B v l) (hl : 0 < l.length) :
    ∃ g cap, v = .slice (some ⟨g, 0, none⟩) l.length cap ∧ B ≤ g ∧ g < w.heap.size ∧ l.length ≤ cap ∧ cap ≤ maxLen ∧ ∀ j x, l[j]? = some x → ∀ i, i < K.k → w.cell? ⟨g, j * K.k + i, none⟩ = (K.enc x)[i]? := by
  rcases h.2 with ⟨rfl, hn⟩ | ⟨g, cap, cur, rfl, hB, hg, hnc, hm, hcs, htake⟩
  · omega
  · refine ⟨g, cap, rfl, hB, (World.ownsRow.lt h g rfl).2, hnc, hm, fun j x hj i hi => ?_⟩
    have hjl := (List.getElem?_eq_some_iff.1 hj).1
    have : j * K.k + i < l.length * K.k := by
      have := Nat.mul_le_mul_right K.k hjl
      rw [Nat.succ_mul] at this; omega
    rw [World.ownsRow.cellAt h _ this]
    exact cs_at K l j x hj i hi
theorem Own.forms {w : World} {B : Nat} {v : Value} {l : List α} (h : Own K w B v l) : (v = .slice none 0 0 ∧ l = []) ∨ ∃ g cap, v = .slice (some ⟨g, 0, none⟩) l.length cap ∧ B ≤ g ∧ g < w.heap.size ∧ l.length ≤ cap ∧ cap ≤ maxLen := by
  rcases h.2 with ⟨rfl, hn⟩ | ⟨g, cap, cur, rfl, hB, hg, hnc, hm, hcs, htake⟩
  · exact Or.inl ⟨rfl, List.eq_nil_of_length_eq_zero hn⟩
  · exact Or.inr ⟨g, cap, rfl, hB, (World.ownsRow.lt h g rfl).2, hnc, hm⟩
theorem Own.cell {w : World} {B g cap n : Nat} {l : List α} (h : Own K w B (.slice (some ⟨g, 0, none⟩) n cap) l) {j : Nat} {x : α} (hj : l[j]? = some x) {i : Nat} (hi : i < K.k) : w.cell? ⟨g, j * K.k + i, none⟩ = (K.enc x)[i]? := by
  obtain ⟨g', cap', e, _, _, _, _, hc⟩ := h.form (by have := (List.getElem?_eq_some_iff.1 hj).1; omega)
  simp only [Value.slice.injEq, Option.some.injEq, Addr.mk.injEq, and_true] at e
  rw [e.1]; exact hc j x hj i hi
/-- elements more, out of whatever cells -/
theorem app_own {ops : Array Oper} {rest : List Oper} {o : Oper} {a : Act} {Q : Exit → Act → World → Prop} (K : Knd α) (w : World)
    (hg : o.guard = none) (s x : Operand) (hop : o.op = Op.call { callee := Callee.builtin Builtin.append, args := #[s, x], argTypes := #[K.s, K.s] })
    (B : Nat) (v : Value) (l : List α) (hs : a.eval s = v) (hown : Own K w B v l) (ad : Addr) (m c : Nat) (news : List α) (hx : a.eval x = .slice (some ad) m c) (hm : news.length = m)
    (hc : ∀ j u, (K.cs news)[j]? = some u → w.cell? (ad.add j) = some u) (b0 : l.length + m ≤ maxLen) (b1 : (l.length + m) * K.by_ ≤ 140737488355328) (b4 : B ≤ w.heap.size)
    (hK : ∀ v' w', Own K w' B v' (l ++ news) → Below B w w' → w.grownBy w' v.ownBlock → wpList Try.prog ops Q rest (a.put o.dst v') w') : wpList Try.prog ops Q (o :: rest) a w := by
  obtain ⟨i0, hi, hz0, hz1, hz2⟩ := info_parts K.info
  refine wpList_append_own w hg s x K.s hop B K.e i0 K.z K.k K.by_ K.hs hi hz0 hz1 hz2 K.hz K.pos v l.length (K.cs l) hs hown ad m c (K.cs news) hx (by rw [cs_length, hm]) hc (cs_one K news) b0 b1 b4 ?_
  intro v' w' h1 h2 _
  refine hK v' w' ?_ ?_ h2
  · unfold Own
    rw [cs_append, List.length_append, hm]
    exact h1
  · exact (Below.refl _ _).grown h2 b4 (fun k hk => (hown.lt k hk).1)
/-- one element more, out of a block -/
theorem app_one {ops : Array Oper} {rest : List Oper} {o : Oper} {a : Act} {Q : Exit → Act → World → Prop} (K : Knd α) (w : World)
    (hg : o.guard = none) (s x : Operand) (hop : o.op = Op.call { callee := Callee.builtin Builtin.append, args := #[s, x], argTypes := #[K.s, K.s] })
    (B : Nat) (v : Value) (l : List α) (hs : a.eval s = v) (hown : Own K w B v l) (b c : Nat) (y : α) (t : TypeId) (hx : a.eval x = .slice (some ⟨b, 0, none⟩) 1 c) (hb : Blk w b (K.enc y) t)
    (b0 : l.length + 1 ≤ maxLen) (b1 : (l.length + 1) * K.by_ ≤ 140737488355328) (b4 : B ≤ w.heap.size)
    (hK : ∀ v' w', Own K w' B v' (l ++ [y]) → Below B w w' → w.grownBy w' v.ownBlock → wpList Try.prog ops Q rest (a.put o.dst v') w') : wpList Try.prog ops Q (o :: rest) a w := by
  refine app_own K w hg s x hop B v l hs hown ⟨b, 0, none⟩ 1 c [y] hx rfl (fun j u hj => ?_) b0 b1 b4 hK
  have e : (⟨b, 0, none⟩ : Addr).add j = ⟨b, j, none⟩ := by unfold Addr.add; split <;> simp_all
  rw [e, hb.cell]
  simpa [Knd.cs] using hj
theorem run_load_at (w : World) (g off : Nat) (ty : TypeId) (cs : Array Value) (d : TypeDesc) (hc : ∀ i, i < cs.size → w.cell? ⟨g, off + i, none⟩ = cs[i]?)
    (hu : Try.prog.underlying ty = some d) (hd : wideD d = true) (hi : (Try.prog.info? ty).map (·.size) = some cs.size) :
    (loadVar ty ⟨g, off, none⟩).run Try.prog w = .ok (.agg cs) w := by
  have hl : (loadCells ⟨g, off, none⟩ cs.toList.length).run Try.prog w = .ok cs.toList.toArray w :=
    run_loadCells_list (P := Try.prog) w ⟨g, off, none⟩ cs.toList (fun j v hv => by
      have hadd : (⟨g, off, none⟩ : Addr).add j = ⟨g, off + j, none⟩ := by unfold Addr.add; split <;> simp_all
      have hj : j < cs.size := by have := (List.getElem?_eq_some_iff.1 hv).1; simpa using this
      rw [hadd, hc j hj]
      simpa using hv)
  cases hq : Try.prog.info? ty with
  | none => simp [hq] at hi
  | some i =>
    have hs : i.size = cs.size := by simpa [hq] using hi
    have hagg : (isAgg ty).run Try.prog w = .ok true w := by
      unfold isAgg
      rw [Sem.run_bind, run_underlying hu w]
      cases d <;> first | rfl | cases hd
    simp only [Array.length_toList, Array.toArray_toList] at hl
    simp [loadVar, Sem.run_bind, hagg, sizeOf, typeInfo, hq, hs, hl]
/-- an element of a row is loaded -/
theorem elem_load {ops : Array Oper} {rest : List Oper} {o : Oper} {a : Act} {Q : Exit → Act → World → Prop} (K : Knd α) (W : World) (hgd : o.guard = none) (x : Operand) (ho : o.op = .load K.e x)
    (B g n cap : Nat) (l : List α) (h : Own K W B (.slice (some ⟨g, 0, none⟩) n cap) l) (j : Nat) (off : Nat) (hx : a.eval x = .pointer (some ⟨g, off, none⟩)) (hoff : off = j * K.k) (y : α) (hy : l[j]? = some y) (F : Array Value) (hF : K.enc y = F)
    (d : TypeDesc) (hu : Try.prog.underlying K.e = some d) (hd : wideD d = true)
    (hK : wpList Try.prog ops Q rest (a.put o.dst (.agg F)) W) : wpList Try.prog ops Q (o :: rest) a W := by
  subst hF
  refine wpList_plain hgd fun _ hK' => ?_
  have hi : (Try.prog.info? K.e).map (·.size) = some (K.enc y).size := by
    obtain ⟨i0, hi, _, hz1, _⟩ := info_parts K.info
    rw [hi, K.hk]; simp [hz1]
  unfold Oper.wp execOp
  simp only [ho, hx, Instr.loadAt, Instr.sureAddr, Sem.run_bind, Sem.run_pure, Result.andThen_ok, run_load_at W g off K.e (K.enc y) d (fun i hi => by rw [hoff]; exact h.cell hy (by rwa [K.hk] at hi)) hu hd hi]
  exact hK' _ _ hK
end
end Go.Proofs.Ytlbpapngcgnepaa.rws
/- Packets in pieces: rows of packets; the pieces that a packet is split into, and the error that it is split with. -/
namespace Go.Proofs.Ytlbpapngcgnepaa.frb
open Go.ChangeShapes Go.WideShapes Go.ChangeAt Go.RowKit
open Go.Proofs.Ytlbpapngcgnepaa.ipb Go.Proofs.Ytlbpapngcgnepaa.boxes Go.Proofs.Ytlbpapngcgnepaa.rws

theorem cells_one (p : Pk) : p.cells.all (·.oneCell') = true := by simp [Value.oneCell']
/-- rows of packets -/
def PK : Knd Pk := { e := 24, s := 25, k := 11, by_ := 88, z := .agg zeroP.cells, enc := Pk.cells, hk := fun _ => rfl, h1 := cells_one, pos := by decide, hz := rfl, hs := Try.underlying25, info := by kernel_rfl }
/-- piece k of z bytes -/
def pc (p : Pk) (z k : Nat) : Pk := { p with st := p.st + (k * z / 8 : Nat), d := p.d.extract (k * z) (min (k * z + z) p.d.size), mo := p.mo || decide (k * z + z < p.d.size) }
def npc (z n : Nat) : Nat := (n + z - 1) / z
def pcs (p : Pk) (z : Nat) : List Pk := (List.range (npc z p.d.size)).map (pc p z)
theorem npc_lt {z n k : Nat} (hz : 0 < z) : k < npc z n ↔ k * z < n := by
  unfold npc
  rw [Nat.lt_iff_add_one_le, Nat.le_div_iff_mul_le hz, Nat.add_mul]; omega
/-- how many bytes a packet has -/
def Pk.sz (p : Pk) : Nat := 20 + p.o.size + p.d.size
/-- how many bytes each piece has -/
def each (p : Pk) (m : Int) : Nat := 8 * ((m - (20 + p.o.size : Nat)) / 8).toNat
/-- the error that a packet is split with -/
def spe (p : Pk) (m : Int) : Int :=
  if p.err ≠ 0 then p.err else if m < 68 ∨ 65535 < m then 1 else if (Pk.sz p : Int) ≤ m then 0 else if p.wh = true then 9 else if 65515 < 8 * p.st + p.d.size then 2 else 0
def spl (p : Pk) (m : Int) : List Pk := if spe p m ≠ 0 then [] else if (Pk.sz p : Int) ≤ m then [p] else pcs p (each p m)
theorem range_succ_map (f : Nat → Pk) (k : Nat) : (List.range k).map f ++ [f k] = (List.range (k + 1)).map f := by simp [List.range_succ]
end Go.Proofs.Ytlbpapngcgnepaa.frb
/- A region that draws its order, whose operations only read and whose calls only make new memory: one walk in the order of the text, in every world of a class. -/
namespace Go.Proofs.Ytlbpapngcgnepaa.cls

/-- a world of the class C -/
structure In (C : World → Prop) where
  W : World
  h : C W
theorem wp_region_class {P : Program} {id : Nat} {Q : Exit → Act → World → Prop} {a : Act} {w : World} {l : List Oper} (C : World → Prop) (hm : P.follows .mixedOrders = true) (hB : Region.lexB .any l.toArray = true)
    (hC : C w.drew) (h : wpQuiet P l.toArray (fun w' => ∃ i : In C, w' = i.W) (fun a' => ∀ w', (∃ i : In C, w' = i.W) → Q .normal a' w') l a) : (Code.region id l.toArray true).wp P Q a w :=
  wp_region_quiet (C := fun w' => ∃ i : In C, w' = i.W) hm hB ⟨⟨w.drew, hC⟩, rfl⟩ (by simpa using h)
/-- a callee's contract, in a world of the class -/
theorem call_class {P : Program} {f : FuncId} {args : Array Value} {C : World → Prop} {x : In C} {v : Value} {R : World → Prop}
    (h : Calls P f args x.W fun e w' => e = .returned v ∧ R w') (hR : ∀ w', R w' → C w') : Calls P f args x.W fun e w' => e = .returned v ∧ ∃ i : In C, w' = i.W :=
  h.mono fun _ w' ⟨he, hr⟩ => ⟨he, ⟨w', hR w' hr⟩, rfl⟩
end Go.Proofs.Ytlbpapngcgnepaa.cls
/- Regions that draw their order, in which calls only make new memory: the class of the worlds in which all that there was stands. -/
namespace Go.Proofs.Ytlbpapngcgnepaa.ab
open Go.ChangeShapes Go.WideShapes Go.ChangeAt Go.RowKit
open Go.Proofs.Ytlbpapngcgnepaa.cls Go.Proofs.Ytlbpapngcgnepaa.boxes

/-- all that lies in V lies in W -/
def Ab (V W : World) : Prop := Below V.heap.size V W
theorem Ab.drew (V : World) : Ab V V.drew := ⟨rfl, rfl, rfl, Nat.le_refl _, fun _ _ => rfl⟩
theorem Ab.refl (V : World) : Ab V V := Below.refl _ _
theorem ne (V : World) : Nonempty (In (Ab V)) := ⟨⟨V, Ab.refl V⟩⟩
theorem cell {V : World} {b o : Nat} {r : Option Value} (h : V.cell? ⟨b, o, none⟩ = r) (hb : b < V.heap.size) : ∀ x : In (Ab V), x.W.cell? ⟨b, o, none⟩ = r := fun x => (Below.cell x.h (p := ⟨b, o, none⟩) hb).trans h
theorem cells {V : World} {b : Nat} {F : Array Value} {t : TypeId} (h : Blk V b F t) : ∀ (x : In (Ab V)) o, x.W.cell? ⟨b, o, none⟩ = F[o]? := fun x o => (Below.cell x.h (p := ⟨b, o, none⟩) h.lt).trans (h.cell o)
theorem call {P : Program} {f : FuncId} {args : Array Value} {V : World} {x : In (Ab V)} {v : Value} (h : Calls P f args x.W fun e w' => e = .returned v ∧ Below x.W.heap.size x.W w') : Calls P f args x.W fun e w' => e = .returned v ∧ ∃ i : In (Ab V), w' = i.W :=
  call_class h fun _ hb => Below.trans x.h (hb.mono (Below.size x.h))
theorem call_same {P : Program} {f : FuncId} {args : Array Value} {V : World} {x : In (Ab V)} {v : Value} (h : Calls P f args x.W fun e w' => e = .returned v ∧ w' = x.W) : Calls P f args x.W fun e w' => e = .returned v ∧ ∃ i : In (Ab V), w' = i.W :=
  call_class h fun _ hb => by rw [hb]; exact x.h
theorem region {P : Program} {id : Nat} {Q : Exit → Act → World → Prop} {a : Act} {w : World} {l : List Oper} (hm : P.follows .mixedOrders = true) (hB : Region.lexB .any l.toArray = true)
    (h : wpQuiet P l.toArray (fun w' => ∃ i : In (Ab w), w' = i.W) (fun a' => ∀ w', (∃ i : In (Ab w), w' = i.W) → Q .normal a' w') l a) : (Code.region id l.toArray true).wp P Q a w :=
  wp_region_class (Ab w) hm hB (Ab.drew w) h
end Go.Proofs.Ytlbpapngcgnepaa.ab
/- Parts, heaps, pools: their cells; what is right of them, plain. Rows that are read, wherever they lie. -/
namespace Go.Proofs.Ytlbpapngcgnepaa.frp
open Go.ChangeShapes Go.WideShapes Go.ChangeAt Go.RowKit
open Go.Proofs.Ytlbpapngcgnepaa.ipb Go.Proofs.Ytlbpapngcgnepaa.boxes Go.Proofs.Ytlbpapngcgnepaa.rws Go.Proofs.Ytlbpapngcgnepaa.frb

/-- a part -/
structure Pt where
  a : Int
  d : ByteArray
  la : Bool
abbrev Pt.cells (p : Pt) : Array Value := #[.int .i64 p.a, .string p.d, .bool p.la]
/-- a heap's head: all but its parts -/
structure Hd where
  fr : Int
  to : Int
  pr : Int
  id : Int
  tos : Int
  li : Int
  o : ByteArray
/-- a heap as it lies: its head, and the slice of its parts -/
structure Hv where
  h : Hd
  sa : Option Addr
  sn : Nat
  sc : Nat
abbrev Hv.sl (x : Hv) : Value := .slice x.sa x.sn x.sc
abbrev Hd.cells (h : Hd) (v : Value) : Array Value := #[.int .u32 h.fr, .int .u32 h.to, .int .i64 h.pr, .int .i64 h.id, .int .i64 h.tos, .int .i64 h.li, .string h.o, v]
abbrev Hv.cells (x : Hv) : Array Value := x.h.cells x.sl
theorem pt_one (p : Pt) : p.cells.all (·.oneCell') = true := by simp [Value.oneCell']
theorem hv_one (x : Hv) : x.cells.all (·.oneCell') = true := by simp [Value.oneCell']
def TK : Knd Pt := { e := 49, s := 44, k := 3, by_ := 32, z := .agg #[.int .i64 0, .string ⟨#[]⟩, .bool false], enc := Pt.cells, hk := fun _ => rfl, h1 := pt_one, pos := by decide, hz := rfl, hs := Try.underlying44, info := by kernel_rfl }
def HK : Knd Hv := { e := 46, s := 31, k := 8, by_ := 80, z := .agg #[.int .u32 0, .int .u32 0, .int .i64 0, .int .i64 0, .int .i64 0, .int .i64 0, .string ⟨#[]⟩, .slice none 0 0], enc := Hv.cells, hk := fun _ => rfl, h1 := hv_one, pos := by decide, hz := rfl, hs := Try.underlying31, info := by kernel_rfl }
theorem pt_info : (Try.prog.info? 49).map (·.size) = some 3 := by kernel_rfl
theorem hp_info : (Try.prog.info? 46).map (·.size) = some 8 := by kernel_rfl
theorem nm_info : (Try.prog.info? 63).map (·.size) = some 4 := by kernel_rfl

section
variable {α : Type} {K : Knd α}
/-- a slice's form -/
structure Fm (sa : Option Addr) (n sc : Nat) : Prop where
  le : n ≤ sc
  nil : sa = none → sc = 0
theorem Fm.some {b off n sc : Nat} (h : n ≤ sc) : Fm (some ⟨b, off, none⟩) n sc :=
  ⟨h, (fun e => by cases e)⟩
/-- the slice v is read as l -/
def Rd (K : Knd α) (w : World) (v : Value) (l : List α) : Prop :=
  ∃ sa sc, v = .slice sa l.length sc ∧ l.length ≤ maxLen ∧ Fm sa l.length sc ∧ (0 < l.length → ∃ b off, sa = some ⟨b, off, none⟩ ∧ b < w.heap.size ∧ ∀ j x, l[j]? = some x → ∀ i, i < K.k → w.cell? ⟨b, off + j * K.k + i, none⟩ = (K.enc x)[i]?)
theorem Own.rd {w : World} {B : Nat} {v : Value} {l : List α} (h : Own K w B v l) : Rd K w v l := by
  rcases h.forms with ⟨rfl, rfl⟩ | ⟨g, cap, rfl, hB, hg, hn, hm⟩
  · exact ⟨none, 0, rfl, Nat.zero_le _, ⟨Nat.zero_le _, fun _ => rfl⟩, fun h => by simp at h⟩
  · refine ⟨_, cap, rfl, Nat.le_trans hn hm, Fm.some hn, fun _ => ⟨g, 0, rfl, hg, fun j x hj i hi => ?_⟩⟩
    rw [Nat.zero_add]; exact h.cell hj hi
theorem Rd.below {w w' : World} {v : Value} {l : List α} (h : Rd K w v l) (hb : Below w.heap.size w w') : Rd K w' v l := by
  obtain ⟨sa, sc, rfl, hm, hn, hc⟩ := h
  refine ⟨sa, sc, rfl, hm, hn, fun hp => ?_⟩
  obtain ⟨b, off, rfl, hlt, hx⟩ := hc hp
  exact ⟨b, off, rfl, Nat.lt_of_lt_of_le hlt hb.size, fun j x hj i hi => (hb.cell (p := ⟨b, off + j * K.k + i, none⟩) hlt).trans (hx j x hj i hi)⟩
theorem Rd.form {w : World} {v : Value} {l : List α} (h : Rd K w v l) : ∃ sa sc, v = .slice sa l.length sc := by
  obtain ⟨sa, sc, rfl, _⟩ := h
  exact ⟨sa, sc, rfl⟩
theorem rd_cells [Inhabited α] {w : World} {b off : Nat} {l : List α} (hx : ∀ j x, l[j]? = some x → ∀ i, i < K.k → w.cell? ⟨b, off + j * K.k + i, none⟩ = (K.enc x)[i]?) :
    ∀ j, j < l.length → ∀ i v, ((K.enc l[j]!).toList)[i]? = some v → w.cell? ⟨b, off + j * K.k + i, none⟩ = some v := by
  intro j hj i v hv
  have hi : i < K.k := by
    have := (List.getElem?_eq_some_iff.1 hv).1
    rwa [Array.length_toList, K.hk] at this
  have hl : l[j]? = some l[j]! := by rw [List.getElem?_eq_getElem hj, List.getElem!_eq_getElem?_getD, List.getElem?_eq_getElem hj]; rfl
  rw [hx j _ hl i hi]
  simpa using hv
/-- an element of a row is loaded -/
theorem rd_load {ops : Array Oper} {rest : List Oper} {o : Oper} {a : Act} {Q : Exit → Act → World → Prop} (K : Knd α) (W : World) (hgd : o.guard = none) (x : Operand) (ho : o.op = .load K.e x)
    (b off0 : Nat) (l : List α) (hc : ∀ j y, l[j]? = some y → ∀ i, i < K.k → W.cell? ⟨b, off0 + j * K.k + i, none⟩ = (K.enc y)[i]?) (j : Nat) (off : Nat) (hx : a.eval x = .pointer (some ⟨b, off, none⟩)) (hoff : off = off0 + j * K.k) (y : α) (hy : l[j]? = some y) (F : Array Value) (hF : K.enc y = F)
    (d : TypeDesc) (hu : Try.prog.underlying K.e = some d) (hd : wideD d = true)
    (hK : wpList Try.prog ops Q rest (a.put o.dst (.agg F)) W) : wpList Try.prog ops Q (o :: rest) a W := by
  subst hF
  refine wpList_plain hgd fun _ hK' => ?_
  have hi : (Try.prog.info? K.e).map (·.size) = some (K.enc y).size := by
    obtain ⟨i0, hi, _, hz1, _⟩ := info_parts K.info
    rw [hi, K.hk]; simp [hz1]
  unfold Oper.wp execOp
  simp only [ho, hx, Instr.loadAt, Instr.sureAddr, Sem.run_bind, Sem.run_pure, Result.andThen_ok, run_load_at W b off K.e (K.enc y) d (fun i hi => by rw [hoff]; exact hc j y hy i (by rwa [K.hk] at hi)) hu hd hi]
  exact hK' _ _ hK
end

/-- a heap, plain -/
structure Hp where
  h : Hd
  ps : List Pt
/-- the pool v is read as L -/
def PRd (w : World) (v : Value) (L : List Hp) : Prop := ∃ X : List Hv, Rd HK w v X ∧ X.length = L.length ∧ ∀ (j : Nat) x (h : Hp), X[j]? = some x → L[j]? = some h → x.h = h.h ∧ Rd TK w x.sl h.ps
theorem PRd.below {w w' : World} {v : Value} {L : List Hp} (h : PRd w v L) (hb : Below w.heap.size w w') : PRd w' v L := by
  obtain ⟨X, h1, h2, h3⟩ := h
  exact ⟨X, h1.below hb, h2, fun j x y hx hy => ⟨(h3 j x y hx hy).1, (h3 j x y hx hy).2.below hb⟩⟩

/-- where a part ends -/
def Pt.e (p : Pt) : Int := p.a + p.d.size
/-- Data that are right -/
def dok (d : ByteArray) (la : Bool) : Bool := decide (d.size ≠ 0) && (la || decide (d.size % 8 = 0))
/-- a part that is right -/
def Pt.ok (p : Pt) : Bool := decide (0 ≤ p.a) && (decide (p.a % 8 = 0) && (decide (p.e ≤ 65515) && dok p.d p.la))
def fol (b p : Pt) : Bool := !b.la && decide (b.e ≤ p.a)
/-- parts that are right: each by itself, each behind the one before it -/
def folls : Pt → List Pt → Bool
  | _, [] => true
  | b, p :: r => (p.ok && fol b p) && folls p r
def psok : List Pt → Bool
  | [] => false
  | p :: r => p.ok && folls p r
def hdz (h : Hd) : Bool := decide (h.tos = 0) && (decide (h.li = 0) && decide (h.o.size = 0))
def Hp.ok (x : Hp) : Bool := psok x.ps && (match x.ps with
  | p :: _ => decide (p.a = 0) || hdz x.h
  | [] => false)
/-- heaps of the same four -/
def sameH (a b : Hd) : Bool := a.fr == b.fr && (a.to == b.to && (a.pr == b.pr && a.id == b.id))
/-- a pool's error -/
def bigP (L : List Hp) : Bool := decide (16 < L.length) || L.any fun x => decide (64 < x.ps.length)
def okFrom : List Hp → List Hp → Bool
  | _, [] => true
  | A, x :: r => (!(A.any fun y => sameH y.h x.h) && x.ok) && okFrom (A ++ [x]) r
def perr (L : List Hp) : Int := if bigP L then 2 else if okFrom [] L then 0 else 4
end Go.Proofs.Ytlbpapngcgnepaa.frp
/- Rows of structs: a row that is made with zeros; an element that is stored. Pools of the call's own. -/
namespace Go.Proofs.Ytlbpapngcgnepaa.pl
open Go.ChangeShapes Go.WideShapes Go.ChangeAt Go.RowKit
open Go.Proofs.Ytlbpapngcgnepaa.boxes Go.Proofs.Ytlbpapngcgnepaa.rws Go.Proofs.Ytlbpapngcgnepaa.frp

section
variable {α : Type} {K : Knd α}
theorem cs_set (K : Knd α) : ∀ (l : List α) (j : Nat) (y : α), j < l.length → K.cs (l.set j y) = (K.cs l).take (j * K.k) ++ (K.enc y).toList ++ (K.cs l).drop (j * K.k + K.k)
  | [], j, y, h => by simp at h
  | x :: r, 0, y, _ => by
    have e1 : K.cs ((x :: r).set 0 y) = (K.enc y).toList ++ K.cs r := rfl
    have e2 : K.cs (x :: r) = (K.enc x).toList ++ K.cs r := rfl
    have hl : (K.enc x).toList.length = K.k := by rw [Array.length_toList, K.hk]
    rw [e1, e2, Nat.zero_mul, Nat.zero_add, List.take_zero, List.nil_append, ← hl, List.drop_left]
  | x :: r, j + 1, y, h => by
    have e1 : K.cs ((x :: r).set (j + 1) y) = (K.enc x).toList ++ K.cs (r.set j y) := rfl
    have e2 : K.cs (x :: r) = (K.enc x).toList ++ K.cs r := rfl
    have hl : (K.enc x).toList.length = K.k := by rw [Array.length_toList, K.hk]
    rw [e1, e2, cs_set K r j y (by simpa using h)]
    have t1 : (j + 1) * K.k = (K.enc x).toList.length + j * K.k := by rw [hl, Nat.add_mul]; omega
    rw [t1, List.take_length_add_append, show (K.enc x).toList.length + j * K.k + K.k = (K.enc x).toList.length + (j * K.k + K.k) by omega, List.drop_length_add_append]
    simp
/-- an element of a row is stored -/
theorem elem_store {ops : Array Oper} {rest : List Oper} {o : Oper} {a : Act} {Q : Exit → Act → World → Prop} (K : Knd α) (W : World) (hgd : o.guard = none) (x z : Operand) (ho : o.op = .store K.e x z)
    (B g n cap : Nat) (l : List α) (h : Own K W B (.slice (some ⟨g, 0, none⟩) n cap) l) (j off : Nat) (hx : a.eval x = .pointer (some ⟨g, off, none⟩)) (hoff : off = j * K.k) (hj : j < l.length) (y : α) (hz : a.eval z = .agg (K.enc y))
    (hK : ∀ W', Own K W' B (.slice (some ⟨g, 0, none⟩) n cap) (l.set j y) → But g W W' → wpList Try.prog ops Q rest (a.put o.dst undef) W') : wpList Try.prog ops Q (o :: rest) a W := by
  refine wpList_plain hgd fun _ hK' => ?_
  have hl1 := h.1
  rcases h.2 with ⟨e, _⟩ | ⟨g', cap', cur, e, hB, hg, hnc, hm, hcs, htake⟩
  · simp at e
  · simp only [Value.slice.injEq, Option.some.injEq, Addr.mk.injEq, and_true] at e
    obtain ⟨rfl, rfl, rfl⟩ := e
    obtain ⟨i0, hi, _, hz1, _⟩ := info_parts K.info
    have hk := K.hk y
    have hkl : (K.enc y).toList.length = K.k := by rw [Array.length_toList, hk]
    have hjk : j * K.k + K.k ≤ l.length * K.k := by
      have := Nat.mul_le_mul_right K.k hj
      rwa [Nat.succ_mul] at this
    have hlc : l.length * K.k ≤ cur.size := by rw [hcs]; exact Nat.mul_le_mul_right _ hnc
    have hst := run_storeCells_at (P := Try.prog) g off K.e (K.enc y).toList 0 cur W hg (by rw [Array.length_toList, hk, hoff]; omega) (fun v hv => Array.all_eq_true'.1 (K.h1 y) v (by simpa using hv))
    have hsv : (storeVar K.e ⟨g, off, none⟩ (.agg (K.enc y))).run Try.prog W = .ok () (W.setRow g (cur.toList.take (off + 0) ++ (K.enc y).toList ++ cur.toList.drop (off + 0 + (K.enc y).toList.length)).toArray) := by
      have hs : (K.enc y).size = i0.size := by rw [hk, hz1]
      simp [storeVar, sizeOf, typeInfo, hi, Value.cells, hs, hst]
    unfold Oper.wp execOp
    simp only [ho, hx, hz, Instr.storeAt, Instr.sureAddr, Sem.run_bind, Sem.run_pure, Result.andThen_ok, hsv]
    refine hK' _ _ (hK _ ?_ (but_setRow W g _))
    refine ⟨by rw [cs_length, List.length_set], .inr ⟨g, cap, _, ?_, hB, setRow_heap W g cur _ K.e _ hg, by rw [List.length_set]; exact hnc, hm, ?_, ?_⟩⟩
    · rw [List.length_set]
    · simp only [List.size_toArray, List.length_append, List.length_take, List.length_drop, Array.length_toList, hk]
      have : off + K.k ≤ cur.size := by rw [hoff]; omega
      omega
    · rw [cs_set K l j y hj, List.length_set, Nat.add_zero, hoff]
      rw [hkl]
      have ht : (cur.toList.take (l.length * K.k)) = K.cs l := htake
      rw [← ht]
      generalize cur.toList = C at *
      generalize l.length * K.k = N at *
      have hC : N ≤ C.length := by
        have := congrArg List.length ht
        rw [List.length_take] at this
        have h2 := hl1
        omega
      rw [List.take_take, Nat.min_eq_left (by omega), List.drop_take]
      have e1 : (C.take (j * K.k) ++ (K.enc y).toList).length = j * K.k + K.k := by
        rw [List.length_append, List.length_take, hkl]; omega
      rw [List.take_append, e1, List.take_of_length_le (by omega)]
/-- a row of zeros is made -/
theorem make_full {ops : Array Oper} {rest : List Oper} {o : Oper} {a : Act} {Q : Exit → Act → World → Prop} (K : Knd α) (z : α) (hz : K.enc z = K.z.cells) (w : World)
    (hg : o.guard = none) (x c : Operand) (hop : o.op = Op.makeSlice K.s x c) (B : Nat) (kl kc : IntKind) (n : Nat) (hl : a.eval x = .int kl (n : Int)) (hc : a.eval c = .int kc (n : Int)) (b2 : K.by_ * n ≤ 281474976710656) (b3 : n ≤ maxLen) (b4 : B ≤ w.heap.size)
    (hK : ∀ w', Own K w' B (.slice (some ⟨w.heap.size, 0, none⟩) n n) (List.replicate n z) → Below B w w' → wpList Try.prog ops Q rest (a.put o.dst (.slice (some ⟨w.heap.size, 0, none⟩) n n)) w') : wpList Try.prog ops Q (o :: rest) a w := by
  refine wpList_plain hg fun _ hK' => ?_
  obtain ⟨i0, hi, hz0, hz1, hz2⟩ := info_parts K.info
  obtain ⟨w', hrun, r1, r2⟩ := run_make_full (P := Try.prog) w B K.s K.e i0 K.z K.k K.hs hi hz0 hz1 kl kc n (by rw [hz2]; exact b2) b3 b4
  unfold Oper.wp
  simp [execOp, hop, hl, hc, hrun, Result.andThen]
  refine hK' _ _ (hK w' ?_ ((Below.refl _ _).grown r2 b4 (by simp)))
  unfold Own
  rw [List.length_replicate]
  have e : (madeCells K.z.cells (n * K.k)).toList = K.cs (List.replicate n z) := by
    have hs : K.z.cells.size = K.k := K.hz
    apply List.ext_getElem?
    intro t
    by_cases ht : t < n * K.k
    · have hq : t / K.k < n := by
        rw [Nat.div_lt_iff_lt_mul K.pos]; exact ht
      have hr : t % K.k < K.k := Nat.mod_lt _ K.pos
      have hd : t / K.k * K.k + t % K.k = t := by rw [Nat.mul_comm]; exact Nat.div_add_mod t K.k
      have := cs_at K (List.replicate n z) (t / K.k) z (by rw [List.getElem?_replicate, if_pos hq]) (t % K.k) hr
      rw [hd] at this
      rw [this, hz]
      simp [madeCells, ht, hs]
      rw [Array.getElem?_eq_getElem (by omega)]
      simp [hs, hr]
    · rw [List.getElem?_eq_none (by simp [size_madeCells]; omega), List.getElem?_eq_none (by rw [cs_length, List.length_replicate]; omega)]
  rw [← e]
  exact r1
/-- all of a row is put behind a row of the call's own: also where it is nil -/
theorem app_rd {ops : Array Oper} {rest : List Oper} {o : Oper} {a : Act} {Q : Exit → Act → World → Prop} (K : Knd α) (w : World)
    (hg : o.guard = none) (s x : Operand) (hop : o.op = Op.call { callee := Callee.builtin Builtin.append, args := #[s, x], argTypes := #[K.s, K.s] })
    (B : Nat) (v : Value) (l : List α) (hs : a.eval s = v) (hown : Own K w B v l) (u : Value) (news : List α) (hx : a.eval x = u) (hr : Rd K w u news)
    (b0 : l.length + news.length ≤ maxLen) (b1 : (l.length + news.length) * K.by_ ≤ 140737488355328) (b4 : B ≤ w.heap.size)
    (hK : ∀ v' w', Own K w' B v' (l ++ news) → Below B w w' → w.grownBy w' v.ownBlock → wpList Try.prog ops Q rest (a.put o.dst v') w') : wpList Try.prog ops Q (o :: rest) a w := by
  obtain ⟨sa, sc, rfl, hm, hf, hc⟩ := hr
  cases sa with
  | none =>
    have hn : news = [] := by
      have h1 := hf.nil rfl
      have h2 := hf.le
      exact List.eq_nil_of_length_eq_zero (by omega)
    subst hn
    have hsc := hf.nil rfl
    subst hsc
    refine wpList_plain hg fun _ hK' => ?_
    obtain ⟨i0, hi, hz0, hz1, hz2⟩ := info_parts K.info
    have hrun := run_append_owned_none (P := Try.prog) w B K.s o.type K.e i0 K.k K.hs hi v l.length (K.cs l) hown
    unfold Oper.wp
    simp [execOp, hop, resolve, invoke, builtin, hs, hx, hrun, Result.andThen]
    exact hK' _ _ (hK v w (by rw [List.append_nil]; exact hown) (Below.refl _ _) ⟨rfl, rfl, rfl, Nat.le_refl _, fun _ _ _ => rfl⟩)
  | some ad =>
    refine app_own K w hg s x hop B v l hs hown ad news.length sc news hx rfl (fun j y hj => ?_) b0 b1 b4 hK
    have hjl : j < news.length * K.k := by
      have := (List.getElem?_eq_some_iff.1 hj).1
      rwa [cs_length] at this
    have hp : 0 < news.length := by
      by_cases h0 : news.length = 0
      · rw [h0] at hjl; omega
      · omega
    obtain ⟨b, off, e, hb, hcell⟩ := hc hp
    obtain rfl := Option.some.inj e
    have hadd : (⟨b, off, none⟩ : Addr).add j = ⟨b, off + j, none⟩ := by unfold Addr.add; split <;> simp_all
    have hq : j / K.k < news.length := by rw [Nat.div_lt_iff_lt_mul K.pos]; exact hjl
    have hr' : j % K.k < K.k := Nat.mod_lt _ K.pos
    have hd : j / K.k * K.k + j % K.k = j := by rw [Nat.mul_comm]; exact Nat.div_add_mod j K.k
    have e1 := hcell (j / K.k) news[j / K.k] (List.getElem?_eq_getElem hq) (j % K.k) hr'
    have e2 := cs_at K news (j / K.k) news[j / K.k] (List.getElem?_eq_getElem hq) (j % K.k) hr'
    rw [hd, hj] at e2
    rw [Nat.add_assoc, hd] at e1
    rw [hadd, e1, ← e2]
end

/-- a heap as it lies, and its parts -/
structure Hq where
  v : Hv
  ps : List Pt
def Hq.p (q : Hq) : Hp := ⟨q.v.h, q.ps⟩
/-- two heaps' parts lie apart -/
def Apart (a b : Hq) : Prop := a.v.sl.ownBlock = none ∨ a.v.sl.ownBlock ≠ b.v.sl.ownBlock
/-- the slice v is a pool, all of it among the blocks from B on, each row by itself -/
structure Pool (w : World) (B : Nat) (v : Value) (Q : List Hq) : Prop where
  row : Own HK w B v (Q.map (·.v))
  part : ∀ q ∈ Q, Own TK w B q.v.sl q.ps
  apart : Q.Pairwise Apart
theorem own_kind {α : Type} {K : Knd α} {w : World} {B : Nat} {v : Value} {l : List α} (h : Own K w B v l) : ∀ g, v.ownBlock = some g → ∃ c, w.heap[g]? = some (.cells c K.e (0, 0)) := by
  intro g hg
  rcases h.2 with ⟨rfl, _⟩ | ⟨g', cap, cur, rfl, hB, hgg, _⟩
  · simp [Value.ownBlock] at hg
  · simp [Value.ownBlock] at hg
    subst hg
    exact ⟨cur, hgg⟩
/-- a row of heaps and a row of parts lie apart -/
theorem ne_kind {w : World} {B B' : Nat} {v v' : Value} {X : List Hv} {ps : List Pt} (h1 : Own HK w B v X) (h2 : Own TK w B' v' ps) {g : Nat} (hg : v.ownBlock = some g) : v'.ownBlock ≠ some g := by
  intro e
  obtain ⟨c, hc⟩ := own_kind h1 g hg
  obtain ⟨c', hc'⟩ := own_kind h2 g e
  rw [hc] at hc'
  have h46 : HK.e = TK.e := by
    have := Option.some.inj hc'
    simp only [Obj.cells.injEq] at this
    exact this.2.1
  exact absurd h46 (by decide)
theorem Pool.kept {w w' : World} {B : Nat} {v : Value} {Q : List Hq} (h : Pool w B v Q) (hb : Below w.heap.size w w') : Pool w' B v Q := ⟨h.row.kept hb, fun q hq => (h.part q hq).kept hb, h.apart⟩
theorem Pool.prd {w : World} {B : Nat} {v : Value} {Q : List Hq} (h : Pool w B v Q) : PRd w v (Q.map Hq.p) := by
  refine ⟨Q.map (·.v), Own.rd h.row, by simp, fun j x y hx hy => ?_⟩
  rw [List.getElem?_map, Option.map_eq_some_iff] at hx hy
  obtain ⟨q, hq, rfl⟩ := hx
  obtain ⟨q', hq', rfl⟩ := hy
  rw [hq] at hq'
  obtain rfl := Option.some.inj hq'
  exact ⟨rfl, Own.rd (h.part q (List.mem_of_getElem? hq))⟩
end Go.Proofs.Ytlbpapngcgnepaa.pl
