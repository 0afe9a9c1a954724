/- How many bits a number of 64 has: as math/bits counts them, all bytes at once. -/
import Derived.Test.YtajhdpkiafaebaaDoorPtMath
namespace Go.Proofs.YtajhdpkiafaebaaDoor.pp
open Go.Proofs.YtajhdpkiafaebaaDoor.pm

def pop : Nat → Nat → Nat
  | 0, _ => 0
  | f + 1, x => x % 2 + pop f (x / 2)
theorem pop_count : ∀ (n x : Nat), pop n x = (List.range n).countP fun k => x.testBit k
  | 0, _ => rfl
  | n + 1, x => by
    rw [pop, pop_count n (x / 2), List.range_succ_eq_map, List.countP_cons, List.countP_map]
    have e : ((fun k => x.testBit k) ∘ Nat.succ) = fun k => (x / 2).testBit k := by
      funext k
      exact Nat.testBit_succ x k
    rw [e, Nat.testBit_zero]
    have h2 : x % 2 = 0 ∨ x % 2 = 1 := by omega
    rcases h2 with h | h <;> simp [h] <;> omega
theorem pop_split : ∀ (f g x : Nat), pop (f + g) x = pop f x + pop g (x / 2 ^ f)
  | 0, g, x => by simp [pop]
  | f + 1, g, x => by
    rw [show f + 1 + g = (f + g) + 1 by omega, pop, pop, pop_split f g (x / 2), Nat.div_div_eq_div_mul, show 2 * 2 ^ f = 2 ^ (f + 1) by rw [Nat.pow_succ]; omega]
    omega
theorem pop_mod : ∀ (f x : Nat), pop f x = pop f (x % 2 ^ f)
  | 0, _ => rfl
  | f + 1, x => by
    rw [pop, pop, pop_mod f (x / 2)]
    have e1 : x % 2 ^ (f + 1) % 2 = x % 2 := Nat.mod_mod_of_dvd _ ⟨2 ^ f, by rw [Nat.pow_succ]; omega⟩
    have e2 : x % 2 ^ (f + 1) / 2 = x / 2 % 2 ^ f := by
      rw [Nat.pow_succ, Nat.mul_comm, Nat.mod_mul_right_div_self]
    rw [e1, e2]
theorem nf_pop (t : Nat) : nf t + pop 64 t = 64 := by
  rw [pop_count]
  have := List.length_eq_countP_add_countP (fun k => t.testBit k) (l := List.range 64)
  rw [List.length_range] at this
  unfold nf
  have e : (fun k => !t.testBit k) = fun k => decide ¬ (t.testBit k = true) := by funext k; cases t.testBit k <;> rfl
  rw [e]
  omega
/-- bytes, the least first -/
def vl : List Nat → Nat
  | [] => 0
  | a :: l => a + 256 * vl l
def ms (c : Nat) : Nat → Nat
  | 0 => 0
  | n + 1 => c + 256 * ms c n
theorem and_split {a c : Nat} (ha : a < 256) (hc : c < 256) (y m : Nat) : (a + 256 * y) &&& (c + 256 * m) = (a &&& c) + 256 * (y &&& m) := by
  have h1 := Nat.and_div_two_pow (a := a + 256 * y) (b := c + 256 * m) (n := 8)
  have h2 := Nat.and_mod_two_pow (a := a + 256 * y) (b := c + 256 * m) (n := 8)
  rw [show (2 : Nat) ^ 8 = 256 from rfl] at h1 h2
  rw [show (a + 256 * y) / 256 = y by omega, show (c + 256 * m) / 256 = m by omega] at h1
  rw [show (a + 256 * y) % 256 = a by omega, show (c + 256 * m) % 256 = c by omega] at h2
  omega
def b1 (a : Nat) : Nat := (a / 2 &&& 85) + (a &&& 85)
def b2 (a : Nat) : Nat := (a / 4 &&& 51) + (a &&& 51)
def b3 (a : Nat) : Nat := a / 16 + a % 16
theorem b_fit : ∀ a, a < 256 → b1 a < 256 ∧ b2 (b1 a) < 256 ∧ b2 (b1 a) % 16 ≤ 4 ∧ b2 (b1 a) / 16 ≤ 4 ∧ b3 (b2 (b1 a)) = pop 8 a ∧ pop 8 a ≤ 8 := by decide +kernel
theorem l1 : ∀ a, a < 256 → ∀ y, y < 2 → (a / 2 + 128 * y) &&& 85 = a / 2 &&& 85 := by decide +kernel
theorem l2 : ∀ a, a < 256 → ∀ y, y < 4 → (a / 4 + 64 * y) &&& 51 = a / 4 &&& 51 := by decide +kernel
theorem l3 : ∀ a, a < 256 → a &&& 15 = a % 16 := by decide +kernel
def s1 (n x : Nat) : Nat := (x / 2 &&& ms 85 n) + (x &&& ms 85 n)
def s2 (n x : Nat) : Nat := (x / 4 &&& ms 51 n) + (x &&& ms 51 n)
def s3 (n x : Nat) : Nat := (x / 16 + x) &&& ms 15 n
theorem s1_vl : ∀ l : List Nat, (∀ a ∈ l, a < 256) → s1 l.length (vl l) = vl (l.map b1)
  | [], _ => rfl
  | a :: l, h => by
    have ih := s1_vl l fun x hx => h x (by simp [hx])
    have ha := h a (by simp)
    show ((a + 256 * vl l) / 2 &&& (85 + 256 * ms 85 l.length)) + ((a + 256 * vl l) &&& (85 + 256 * ms 85 l.length)) = b1 a + 256 * vl (l.map b1)
    rw [← ih]
    unfold s1
    generalize vl l = y at *
    have e : (a + 256 * y) / 2 = (a / 2 + 128 * (y % 2)) + 256 * (y / 2) := by omega
    rw [e, and_split (by omega) (by decide), and_split ha (by decide), l1 a ha _ (by omega)]
    unfold b1
    omega
theorem s2_vl : ∀ l : List Nat, (∀ a ∈ l, a < 256) → s2 l.length (vl l) = vl (l.map b2)
  | [], _ => rfl
  | a :: l, h => by
    have ih := s2_vl l fun x hx => h x (by simp [hx])
    have ha := h a (by simp)
    show ((a + 256 * vl l) / 4 &&& (51 + 256 * ms 51 l.length)) + ((a + 256 * vl l) &&& (51 + 256 * ms 51 l.length)) = b2 a + 256 * vl (l.map b2)
    rw [← ih]
    unfold s2
    generalize vl l = y at *
    have e : (a + 256 * y) / 4 = (a / 4 + 64 * (y % 4)) + 256 * (y / 4) := by omega
    rw [e, and_split (by omega) (by decide), and_split ha (by decide), l2 a ha _ (by omega)]
    unfold b2
    omega
theorem low4 : ∀ l : List Nat, (∀ a ∈ l, a % 16 ≤ 4) → vl l % 16 ≤ 4
  | [], _ => by simp [vl]
  | a :: l, h => by
    have := h a (by simp)
    unfold vl
    omega
theorem s3_vl : ∀ l : List Nat, (∀ a ∈ l, a < 256 ∧ a % 16 ≤ 4 ∧ a / 16 ≤ 4) → s3 l.length (vl l) = vl (l.map b3)
  | [], _ => rfl
  | a :: l, h => by
    have ih := s3_vl l fun x hx => h x (by simp [hx])
    have ha := h a (by simp)
    have hy := low4 l fun x hx => (h x (by simp [hx])).2.1
    show ((a + 256 * vl l) / 16 + (a + 256 * vl l)) &&& (15 + 256 * ms 15 l.length) = b3 a + 256 * vl (l.map b3)
    rw [← ih]
    unfold s3
    generalize vl l = y at *
    have e : (a + 256 * y) / 16 + (a + 256 * y) = (a / 16 + a + 16 * (y % 16)) + 256 * (y / 16 + y) := by omega
    rw [e, and_split (by omega) (by decide), l3 _ (by omega)]
    unfold b3
    omega
def by_ : Nat → Nat → List Nat
  | 0, _ => []
  | n + 1, x => x % 256 :: by_ n (x / 256)
theorem by_lt : ∀ (n x : Nat), ∀ a ∈ by_ n x, a < 256
  | 0, _, a, h => by simp [by_] at h
  | n + 1, x, a, h => by
    rcases List.mem_cons.1 h with rfl | h
    · omega
    · exact by_lt n _ a h
theorem by_len : ∀ (n x : Nat), (by_ n x).length = n
  | 0, _ => rfl
  | n + 1, x => by simp [by_, by_len n]
theorem by_vl : ∀ (n x : Nat), x < 256 ^ n → vl (by_ n x) = x
  | 0, x, h => by simp at h; subst h; rfl
  | n + 1, x, h => by
    have := by_vl n (x / 256) (by rw [Nat.pow_succ] at h; omega)
    simp only [by_, vl, this]
    omega
theorem by_pop : ∀ (n x : Nat), ((by_ n x).map (pop 8)).sum = pop (8 * n) x
  | 0, _ => rfl
  | n + 1, x => by
    rw [show 8 * (n + 1) = 8 + 8 * n by omega, pop_split, pop_mod 8 x, by_, List.map_cons, List.sum_cons, by_pop n]
def y1 (x : Nat) : Nat := x + x / 256
def y2 (x : Nat) : Nat := x + x / 65536
def y3 (x : Nat) : Nat := x + x / 4294967296
theorem y1_of (p Z : Nat) (h : p < 256) : y1 (p + 256 * Z) = p + 256 * Z + Z := by
  unfold y1
  rw [show (p + 256 * Z) / 256 = Z by omega]
theorem y2_of (a b Z : Nat) (ha : a < 256) (hb : b < 256) : y2 (a + 256 * (b + 256 * Z)) = a + 256 * (b + 256 * Z) + Z := by
  unfold y2
  rw [show (a + 256 * (b + 256 * Z)) / 65536 = Z by omega]
theorem y3_of (a b c d Z : Nat) (ha : a < 256) (hb : b < 256) (hc : c < 256) (hd : d < 256) : y3 (a + 256 * (b + 256 * (c + 256 * (d + 256 * Z)))) = a + 256 * (b + 256 * (c + 256 * (d + 256 * Z))) + Z := by
  unfold y3
  have e1 : d + 256 * Z = d + 256 * Z := rfl
  rw [show (4294967296 : Nat) = 65536 * 65536 from rfl, ← Nat.div_div_eq_div_mul, show (a + 256 * (b + 256 * (c + 256 * (d + 256 * Z)))) / 65536 = c + 256 * (d + 256 * Z) by omega, show (c + 256 * (d + 256 * Z)) / 65536 = Z by omega]
theorem fold8 (p0 p1 p2 p3 p4 p5 p6 p7 : Nat) (h0 : p0 ≤ 8) (h1 : p1 ≤ 8) (h2 : p2 ≤ 8) (h3 : p3 ≤ 8) (h4 : p4 ≤ 8) (h5 : p5 ≤ 8) (h6 : p6 ≤ 8) (h7 : p7 ≤ 8) :
    y3 (y2 (y1 (vl [p0, p1, p2, p3, p4, p5, p6, p7]))) % 128 = p0 + p1 + p2 + p3 + p4 + p5 + p6 + p7 ∧ vl [p0, p1, p2, p3, p4, p5, p6, p7] < 1152921504606846976 := by
  have e0 : vl [p0, p1, p2, p3, p4, p5, p6, p7] = p0 + 256 * (p1 + 256 * (p2 + 256 * (p3 + 256 * (p4 + 256 * (p5 + 256 * (p6 + 256 * p7)))))) := by simp [vl]
  rw [e0]
  refine ⟨?_, by omega⟩
  rw [y1_of _ _ (by omega)]
  rw [show p0 + 256 * (p1 + 256 * (p2 + 256 * (p3 + 256 * (p4 + 256 * (p5 + 256 * (p6 + 256 * p7)))))) + (p1 + 256 * (p2 + 256 * (p3 + 256 * (p4 + 256 * (p5 + 256 * (p6 + 256 * p7)))))) = (p0 + p1) + 256 * ((p1 + p2) + 256 * ((p2 + p3) + 256 * ((p3 + p4) + 256 * ((p4 + p5) + 256 * ((p5 + p6) + 256 * ((p6 + p7) + 256 * p7)))))) by omega]
  rw [y2_of _ _ _ (by omega) (by omega)]
  rw [show (p0 + p1) + 256 * ((p1 + p2) + 256 * ((p2 + p3) + 256 * ((p3 + p4) + 256 * ((p4 + p5) + 256 * ((p5 + p6) + 256 * ((p6 + p7) + 256 * p7)))))) + ((p2 + p3) + 256 * ((p3 + p4) + 256 * ((p4 + p5) + 256 * ((p5 + p6) + 256 * ((p6 + p7) + 256 * p7))))) = (p0 + p1 + p2 + p3) + 256 * ((p1 + p2 + p3 + p4) + 256 * ((p2 + p3 + p4 + p5) + 256 * ((p3 + p4 + p5 + p6) + 256 * ((p4 + p5 + p6 + p7) + 256 * ((p5 + p6 + p7) + 256 * ((p6 + p7) + 256 * p7)))))) by omega]
  rw [y3_of _ _ _ _ _ (by omega) (by omega) (by omega) (by omega)]
  generalize (p1 + p2 + p3 + p4) + 256 * ((p2 + p3 + p4 + p5) + 256 * ((p3 + p4 + p5 + p6) + 256 * ((p4 + p5 + p6 + p7) + 256 * ((p5 + p6 + p7) + 256 * ((p6 + p7) + 256 * p7))))) = Z
  generalize (p5 + p6 + p7) + 256 * ((p6 + p7) + 256 * p7) = Y
  omega
theorem ones {x : Nat} (hx : x < 18446744073709551616) : y3 (y2 (y1 (s3 8 (s2 8 (s1 8 x))))) % 128 = pop 64 x ∧ s3 8 (s2 8 (s1 8 x)) < 1152921504606846976 := by
  have hl := by_len 8 x
  have hb := by_lt 8 x
  have a0 := by_vl 8 x (by simpa using hx)
  have hp := by_pop 8 x
  have a1 := s1_vl (by_ 8 x) hb
  rw [hl, a0] at a1
  have a2 := s2_vl ((by_ 8 x).map b1) (fun a ha => by obtain ⟨c, hc, rfl⟩ := List.mem_map.1 ha; exact (b_fit c (hb c hc)).1)
  rw [List.length_map, hl, ← a1] at a2
  have a3 := s3_vl (((by_ 8 x).map b1).map b2) (fun a ha => by
    obtain ⟨d, hd, rfl⟩ := List.mem_map.1 ha
    obtain ⟨c, hc, rfl⟩ := List.mem_map.1 hd
    have := b_fit c (hb c hc)
    exact ⟨this.2.1, this.2.2.1, this.2.2.2.1⟩)
  rw [List.length_map, List.length_map, hl, ← a2] at a3
  have a4 : (((by_ 8 x).map b1).map b2).map b3 = (by_ 8 x).map (pop 8) := by
    rw [List.map_map, List.map_map]
    exact List.map_congr_left fun c hc => (b_fit c (hb c hc)).2.2.2.2.1
  rw [a3, a4, ← hp]
  have h8 : ∀ p ∈ (by_ 8 x).map (pop 8), p ≤ 8 := fun p hp => by
    obtain ⟨c, hc, rfl⟩ := List.mem_map.1 hp
    exact (b_fit c (hb c hc)).2.2.2.2.2
  have hlm : ((by_ 8 x).map (pop 8)).length = 8 := by rw [List.length_map, hl]
  generalize (by_ 8 x).map (pop 8) = P at *
  match P, hlm with
  | [p0, p1, p2, p3, p4, p5, p6, p7], _ =>
    obtain ⟨u, v⟩ := fold8 p0 p1 p2 p3 p4 p5 p6 p7 (h8 _ (by simp)) (h8 _ (by simp)) (h8 _ (by simp)) (h8 _ (by simp)) (h8 _ (by simp)) (h8 _ (by simp)) (h8 _ (by simp)) (h8 _ (by simp))
    refine ⟨?_, v⟩
    rw [u]
    simp [List.sum_cons]
    omega
theorem ms5 : ms 85 8 = 6148914691236517205 := by decide
theorem ms3 : ms 51 8 = 3689348814741910323 := by decide
theorem ms0 : ms 15 8 = 1085102592571150095 := by decide
end Go.Proofs.YtajhdpkiafaebaaDoor.pp
