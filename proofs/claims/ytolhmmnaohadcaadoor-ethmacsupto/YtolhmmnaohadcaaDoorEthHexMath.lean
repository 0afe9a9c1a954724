/- Digits of base sixteen: plain mathematics. -/
import Derived.Test.YtolhmmnaohadcaaDoorEthMath
import Derived.Lib.Bytealg
namespace Go.Proofs.YtolhmmnaohadcaaDoor.EH
open Go.Proofs.YtolhmmnaohadcaaDoor.EM

/-- the sixteen digits -/
abbrev dgs : ByteArray := ⟨#[48, 49, 50, 51, 52, 53, 54, 55, 56, 57, 97, 98, 99, 100, 101, 102]⟩
/-- a digit's number, or -1 -/
def dx (c : UInt8) : Int := Lib.indexByte dgs.data.toList c
/-- a number's digit -/
def dig (n : Nat) : UInt8 := dgs.data.toList.getD n 0
theorem dx_all : ∀ n : Fin 256, -1 ≤ dx (UInt8.ofNat n.val) ∧ dx (UInt8.ofNat n.val) ≤ 15 ∧ (0 ≤ dx (UInt8.ofNat n.val) → dig (dx (UInt8.ofNat n.val)).toNat = UInt8.ofNat n.val) := by decide +kernel
theorem dx_bd (c : UInt8) : -1 ≤ dx c ∧ dx c ≤ 15 := by
  have h := dx_all ⟨c.toNat, c.toNat_lt⟩
  rw [UInt8.ofNat_toNat] at h
  exact ⟨h.1, h.2.1⟩
theorem dig_dx (c : UInt8) (h0 : 0 ≤ dx c) : dig (dx c).toNat = c := by
  have h := dx_all ⟨c.toNat, c.toNat_lt⟩
  rw [UInt8.ofNat_toNat] at h
  exact h.2.2 h0
theorem dx_dig_all : ∀ n : Fin 16, dx (dig n.val) = (n.val : Int) := by decide +kernel
theorem dx_dig (n : Nat) (h : n < 16) : dx (dig n) = (n : Int) := dx_dig_all ⟨n, h⟩
/-- the byte of a text at a place -/
def by8 (s : ByteArray) (k : Nat) : UInt8 := s.data.toList.getD k 0
theorem bt_by (s : ByteArray) (k : Nat) : bt s k = ((by8 s k).toNat : Int) := rfl
/-- the two digits and the colon ahead of them, of the address' byte j, are right in s -/
def okD (s : ByteArray) (j : Nat) : Prop := (0 < j → bt s (3 * j - 1) = 58) ∧ 0 ≤ dx (by8 s (3 * j)) ∧ 0 ≤ dx (by8 s (3 * j + 1))
/-- the address' byte j in s -/
def vD (s : ByteArray) (j : Nat) : Int := 16 * dx (by8 s (3 * j)) + dx (by8 s (3 * j + 1))
theorem vD_bd (s : ByteArray) (j : Nat) (h : okD s j) : 0 ≤ vD s j ∧ vD s j ≤ 255 := by
  have h1 := h.2.1; have h2 := h.2.2
  have := dx_bd (by8 s (3 * j)); have := dx_bd (by8 s (3 * j + 1))
  unfold vD; omega
theorem or_hex (a b : Int) (h0 : 0 ≤ a) (h1 : a ≤ 15) (h2 : 0 ≤ b) (h3 : b ≤ 15) : bits .or .i64 (a * 16) b = 16 * a + b := by
  rw [i64_or _ _ (by omega) (by omega) h2 (by omega)]
  rw [nat_join 4 _ _ (by omega) (by omega)]
  omega
theorem and_hex (m : UInt8) : bits .and .u8 (m.toNat : Int) 15 = (m.toNat : Int) % 16 := by
  have := m.toNat_lt
  rw [u8_and _ _ (by omega) (by omega) (by omega) (by omega)]
  have e : ((m.toNat : Int).toNat &&& (15 : Int).toNat) = m.toNat % 16 := by
    rw [Int.toNat_natCast]
    exact nat_mask4 m.toNat
  rw [e]; omega
/-- all six are right -/
def aok (s : ByteArray) : Prop := ∀ j, j < 6 → okD s j
/-- two digits -/
def two (m : UInt8) : List UInt8 := [dig (m.toNat / 16), dig (m.toNat % 16)]
/-- an address as it is shown -/
def shl (m0 m1 m2 m3 m4 m5 : UInt8) : List UInt8 := two m0 ++ [58] ++ two m1 ++ [58] ++ two m2 ++ [58] ++ two m3 ++ [58] ++ two m4 ++ [58] ++ two m5
end Go.Proofs.YtolhmmnaohadcaaDoor.EH
