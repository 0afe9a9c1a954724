/- What ip.Show answers; that custkeep.ipLives answers true. -/
import Derived.Test.YtedbjhpajpakpaaDoorIpRead2
import Derived.Test.YtedbjhpajpakpaaDoorIpMath
import Derived.Test.YtedbjhpajpakpaaDoorShelf
import Derived.Lib.AppendIntMem
namespace Go.Proofs.YtedbjhpajpakpaaDoor.ips
open Go.ChangeShapes Go.WideShapes Go.ChangeAt Go.RowKit Go.BigFrame
open Go.Proofs.YtedbjhpajpakpaaDoor Go.Proofs.YtedbjhpajpakpaaDoor.EM Go.Proofs.YtedbjhpajpakpaaDoor.ethb Go.Proofs.YtedbjhpajpakpaaDoor.SM Go.Proofs.YtedbjhpajpakpaaDoor.ipb Go.Proofs.YtedbjhpajpakpaaDoor.buf Go.Proofs.YtedbjhpajpakpaaDoor.boxes Go.Proofs.YtedbjhpajpakpaaDoor.ipi Go.Proofs.YtedbjhpajpakpaaDoor.ipw Go.Proofs.YtedbjhpajpakpaaDoor.ipr
open Go.Lib (decDigits)

/-- the library's table of powers of ten stands in w -/
abbrev Tab (w : World) : Prop := Lib.TabIs Tryd.prog w "internal/strconv.uint64pow10" .u64 Lib.pow10Tab
theorem Tab.below {w w' : World} (h : Tab w) (hb : Below w.heap.size w w') : Tab w' := Lib.tabBelow_of_tabIs h w' hb
theorem dec_len (u : Nat) (h : u < 256) : (decDigits u).length ≤ 3 := by
  rw [Lib.decDigits_length]
  by_cases h1 : u < 10
  · rw [Lib.nDigits_small h1]; omega
  · rw [Lib.nDigits_big h1]
    by_cases h2 : u / 10 < 10
    · rw [Lib.nDigits_small h2]; omega
    · rw [Lib.nDigits_big h2, Lib.nDigits_small (by omega)]; omega
theorem appendUint_any (w : World) (B : Nat) (v : Value) (l : List UInt8) (n : Int) (hown : Own w B v l) (hl : l.length ≤ 70368744177664) (hB : B ≤ w.heap.size) (h0 : 0 ≤ n) (h1 : n ≤ 255) (ht : Tab w) :
    Calls Tryd.prog 29 #[v, .int .u64 n, .int .i64 10] w fun e w' => ∃ v', e = .returned v' ∧ Own w' B v' (l ++ decDigits n.toNat) ∧ Below B w w' := by
  obtain ⟨u, rfl⟩ := Int.eq_ofNat_of_zero_le h0
  have C : Calls Tryd.prog 51 #[v, .int .u64 u, .int .i64 10] w fun e w' => ∃ v', e = .returned v' ∧ Own w' B v' (l ++ decDigits u) ∧ Below B w w' := by
    have fin : ∀ {e : Ending} {w' : World}, (∃ v', e = .returned v' ∧ w'.ownsRow B 5 1 v' (l.length + (Lib.decDigits u).length) (bc l ++ Lib.byteCells (Lib.decDigits u)) ∧ Below B w w' ∧ Lib.OthersKept 5 none w w') → ∃ v', e = .returned v' ∧ Own w' B v' (l ++ decDigits u) ∧ Below B w w' := by
      rintro e w' ⟨v', he, ho, hb, _⟩
      refine ⟨v', he, ?_, hb⟩
      unfold Own
      rw [List.length_append, bc_append]
      exact ho
    by_cases h100 : u < 100
    · exact (Tryd.internal_strconv_AppendUint_10_small B l.length u h100 v (bc l) w hown hB (by omega)).mono fun e w' hh => fin hh
    · exact (Tryd.internal_strconv_AppendUint_10_big B l.length u (by omega) (by omega) v (bc l) w hown hB (by omega) ht).mono fun e w' hh => fin hh
  go_enter Tryd.func29, Tryd.ntmps29
  go_wp2_with fail
  refine C.mono ?_
  rintro e w1 ⟨v', rfl, o1, b1⟩
  go_wp2_with fail
  go_ret
  exact ⟨_, rfl, o1, b1⟩
theorem and_byte (x : Int) (h0 : 0 ≤ x) (h1 : x ≤ 4294967295) : bits .and .u32 x 255 = x % 256 := by
  obtain ⟨n, rfl⟩ := Int.eq_ofNat_of_zero_le h0
  have e := u32_and_nat n 255 (by omega) (by omega)
  rw [show ((255 : Nat) : Int) = 255 from rfl] at e
  rw [e, show (255 : Nat) = 2 ^ 8 - 1 from rfl, Nat.and_two_pow_sub_one_eq_mod]
  omega
/-- an address, as it is shown -/
def shw (a : Int) : List UInt8 := decDigits (a / 16777216 % 256).toNat ++ (46 :: (decDigits (a / 65536 % 256).toNat ++ (46 :: (decDigits (a / 256 % 256).toNat ++ (46 :: decDigits (a % 256).toNat)))))
theorem dec_pos (u : Nat) : 0 < (decDigits u).length := by rw [Lib.decDigits_length]; exact Lib.nDigits_pos u
theorem byte_own {ops : Array Oper} {rest : List Oper} {o : Oper} {a : Act} {Q : Exit → Act → World → Prop} (w : World)
    (hg : o.guard = none) (s x : Operand) (hop : o.op = Op.call { callee := Callee.builtin Builtin.append, args := #[s, x], argTypes := #[38, 38] })
    (B : Nat) (v : Value) (l : List UInt8) (hs : a.eval s = v) (hown : Own w B v l) (hx : a.eval x = .slice (some ⟨w.heap.size, 0, none⟩) 1 1) (b1 : l.length + 1 ≤ 140737488355328) (b4 : B ≤ w.heap.size)
    (hK : ∀ v' w', Own w' B v' (l ++ [46]) → Below B w w' → wpList Tryd.prog ops Q rest (a.put o.dst v') w') : wpList Tryd.prog ops Q (o :: rest) a (w.alloc (.cells #[.int .u8 46] 5)) :=
  app_own _ hg s x hop B v l hs (hown.alloc _) ⟨w.heap.size, 0, none⟩ 1 1 [46] hx rfl (fun j hj => by
    match j, hj with
    | 0, _ => simp [Addr.add]) b1 (by simp; omega) fun v' w' o' b' => hK v' w' o' (((Below.refl _ _).alloc b4 _).trans b')
theorem own_slice {w : World} {B : Nat} {v : Value} {l : List UInt8} (h : Own w B v l) : ∃ p cap, v = .slice p l.length cap := by
  rcases h.2 with ⟨rfl, hn⟩ | ⟨g, cap, cur, rfl, _⟩
  · exact ⟨none, 0, by rw [hn]⟩
  · exact ⟨_, cap, rfl⟩
set_option maxHeartbeats 2000000 in
theorem show_any (a : Int) (w : World) (h0 : 0 ≤ a) (h1 : a ≤ 4294967295) (ht : Tab w) :
    Calls Tryd.prog 11 #[.int .u32 a] w fun e w' => e = .returned (.string ⟨(shw a).toArray⟩) ∧ Below w.heap.size w w' := by
  have A3 := and_byte (a / 16777216) (by omega) (by omega)
  have A2 := and_byte (a / 65536) (by omega) (by omega)
  have A1 := and_byte (a / 256) (by omega) (by omega)
  have A0 := and_byte a (by omega) (by omega)
  go_enter Tryd.func11, Tryd.ntmps11
  go_wp2_with (at_make; refine make_own _ rfl _ _ rfl w.heap.size _ _ _ 15 rfl rfl (by rfl) (by omega) (Nat.le_refl _) ?_)
  intro v1 w1 o1 l1
  have z1 := l1.size
  go_wp2_with fail
  refine wp_loop_rounds 5 ?_
  rw [rounds_succ]
  obtain ⟨p1, c1, rfl⟩ := own_slice o1
  go_wp2_with fail
  refine (appendUint_any _ w.heap.size _ [] (a / 16777216 % 256) o1 (by simp) z1 (by omega) (by omega) (ht.below l1)).mono ?_
  rintro e w2 ⟨v2, rfl, o2, b2⟩
  have l2 := l1.trans b2
  have z2 := l2.size
  clear o1 b2 z1 l1
  rw [List.nil_append] at o2
  have n2 := dec_pos (a / 16777216 % 256).toNat
  have m2 := dec_len (a / 16777216 % 256).toNat (by omega)
  obtain ⟨L2, hL2⟩ : ∃ L, L = decDigits (a / 16777216 % 256).toNat := ⟨_, rfl⟩
  rw [← hL2] at o2 n2 m2
  have HL2 : Hid (L2 = decDigits (a / 16777216 % 256).toNat) := hL2
  clear hL2
  go_wp2_with fail
  rw [rounds_succ]
  obtain ⟨p2, c2, rfl⟩ := own_slice o2
  have g2 : (0 : Int) < (L2.length : Int) := by omega
  go_wp2_with (at_builtin; refine byte_own w2 rfl _ _ rfl w.heap.size _ L2 rfl o2 rfl (by omega) z2 ?_)
  intro u3 x3 q3 d3
  have y3 := l2.trans d3
  go_wp2_with fail
  refine (appendUint_any _ w.heap.size _ _ (a / 65536 % 256) q3 (by simp; omega) y3.size (by omega) (by omega) (ht.below y3)).mono ?_
  rintro e w3 ⟨v3, rfl, o3, b3⟩
  have l3 := y3.trans b3
  have z3 := l3.size
  have n3 : 0 < (L2 ++ [46] ++ decDigits (a / 65536 % 256).toNat).length := by simp; omega
  have m3 : (L2 ++ [46] ++ decDigits (a / 65536 % 256).toNat).length ≤ 7 := by have := dec_len (a / 65536 % 256).toNat (by omega); simp; omega
  obtain ⟨L3, hL3⟩ : ∃ L, L = L2 ++ [46] ++ decDigits (a / 65536 % 256).toNat := ⟨_, rfl⟩
  rw [← hL3] at o3 n3 m3
  have HL3 : Hid (L3 = L2 ++ [46] ++ decDigits (a / 65536 % 256).toNat) := hL3
  clear o2 q3 d3 y3 b3 z2 l2 hL3 g2 n2 m2
  go_wp2_with fail
  rw [rounds_succ]
  obtain ⟨p3, c3, rfl⟩ := own_slice o3
  have g3 : (0 : Int) < (L3.length : Int) := by omega
  go_wp2_with (at_builtin; refine byte_own w3 rfl _ _ rfl w.heap.size _ L3 rfl o3 rfl (by omega) z3 ?_)
  intro u4 x4 q4 d4
  have y4 := l3.trans d4
  go_wp2_with fail
  refine (appendUint_any _ w.heap.size _ _ (a / 256 % 256) q4 (by simp; omega) y4.size (by omega) (by omega) (ht.below y4)).mono ?_
  rintro e w4 ⟨v4, rfl, o4, b4⟩
  have l4 := y4.trans b4
  have z4 := l4.size
  have n4 : 0 < (L3 ++ [46] ++ decDigits (a / 256 % 256).toNat).length := by simp; omega
  have m4 : (L3 ++ [46] ++ decDigits (a / 256 % 256).toNat).length ≤ 11 := by have := dec_len (a / 256 % 256).toNat (by omega); simp; omega
  obtain ⟨L4, hL4⟩ : ∃ L, L = L3 ++ [46] ++ decDigits (a / 256 % 256).toNat := ⟨_, rfl⟩
  rw [← hL4] at o4 n4 m4
  have HL4 : Hid (L4 = L3 ++ [46] ++ decDigits (a / 256 % 256).toNat) := hL4
  clear o3 q4 d4 y4 b4 z3 l3 hL4 g3 n3 m3
  go_wp2_with fail
  rw [rounds_succ]
  obtain ⟨p4, c4, rfl⟩ := own_slice o4
  have g4 : (0 : Int) < (L4.length : Int) := by omega
  go_wp2_with (at_builtin; refine byte_own w4 rfl _ _ rfl w.heap.size _ L4 rfl o4 rfl (by omega) z4 ?_)
  intro u5 x5 q5 d5
  have y5 := l4.trans d5
  go_wp2_with fail
  refine (appendUint_any _ w.heap.size _ _ (a % 256) q5 (by simp; omega) y5.size (by omega) (by omega) (ht.below y5)).mono ?_
  rintro e w5 ⟨v5, rfl, o5, b5⟩
  have l5 := y5.trans b5
  have z5 := l5.size
  have n5 : 0 < (L4 ++ [46] ++ decDigits (a % 256).toNat).length := by simp; omega
  have m5 : (L4 ++ [46] ++ decDigits (a % 256).toNat).length ≤ 15 := by have := dec_len (a % 256).toNat (by omega); simp; omega
  obtain ⟨L5, hL5⟩ : ∃ L, L = L4 ++ [46] ++ decDigits (a % 256).toNat := ⟨_, rfl⟩
  rw [← hL5] at o5 n5 m5
  have HL5 : Hid (L5 = L4 ++ [46] ++ decDigits (a % 256).toNat) := hL5
  clear o4 q5 d5 y5 b5 z4 l4 hL5 g4 n4 m4
  go_wp2_with fail
  rw [rounds_succ]
  have hs := str_own o5
  go_wp2_with fail
  go_ret
  exact ⟨by rw [show L5 = shw a by rw [HL5.out, HL4.out, HL3.out, HL2.out]; simp [shw]]; rfl, l5⟩
end Go.Proofs.YtedbjhpajpakpaaDoor.ips
