/- What package dgram's inner functions and Under answer, and that they change nothing that was there. -/
import Derived.Test.YtpcknkpddinccaaDoorDgBase
import Derived.Test.YtpcknkpddinccaaDoorWds
namespace Go.Proofs.YtpcknkpddinccaaDoor.dgi
open Go.ChangeShapes Go.WideShapes Go.ChangeAt Go.RowKit
open Go.Proofs.YtpcknkpddinccaaDoor.EM Go.Proofs.YtpcknkpddinccaaDoor.ethb Go.Proofs.YtpcknkpddinccaaDoor.SM Go.Proofs.YtpcknkpddinccaaDoor.ipb Go.Proofs.YtpcknkpddinccaaDoor.buf Go.Proofs.YtpcknkpddinccaaDoor.boxes Go.Proofs.YtpcknkpddinccaaDoor.wds Go.Proofs.YtpcknkpddinccaaDoor.dgb
open Go.Proofs.YtpcknkpddinccaaDoor.sumw (Qd Qd.refl Qd.drewN Qd.trans)

theorem appendWord_any (w : World) (B : Nat) (v : Value) (l : List UInt8) (n : Int) (hown : Own w B v l) (hl : l.length ≤ 70368744177664) (hB : B ≤ w.heap.size) (h0 : 0 ≤ n) (h1 : n ≤ 65535) :
    Calls Tryd.prog 55 #[v, .int .u16 n] w fun e w' => ∃ v', e = .returned v' ∧ Own w' B v' (l ++ [hi8 n, lo8 n]) ∧ Below B w w' := by
  have e0 := hi8_at n h0 h1
  have e1 := lo8_at n
  have hh : n / 256 < 256 := by omega
  go_enter Tryd.func55, Tryd.ntmps55
  go_wp2_with (at_builtin; refine app_own _ rfl _ _ rfl B _ l rfl (hown.alloc _) ⟨w.heap.size, 0, none⟩ 2 2 [hi8 n, lo8 n] rfl rfl ?c1 (by omega) (by simp; omega) ?_)
  case c1 =>
    intro j hj
    match j, hj with
    | 0, _ => simp [Addr.add]; omega
    | 1, _ => simp [Addr.add]; omega
  intro v' w' h1 h2
  go_wp2
  go_ret
  exact ⟨_, rfl, h1, ((Below.refl _ _).alloc hB _).trans h2⟩
theorem appendAddress_any (w : World) (B : Nat) (v : Value) (l : List UInt8) (a : Int) (hown : Own w B v l) (hl : l.length ≤ 35184372088832) (hB : B ≤ w.heap.size) (h0 : 0 ≤ a) (h1 : a ≤ 4294967295) :
    Calls Tryd.prog 54 #[v, .int .u32 a] w fun e w' => ∃ v', e = .returned v' ∧ Own w' B v' (l ++ adr a) ∧ Below B w w' := by
  have hq : a / 65536 < 65536 := by omega
  go_enter Tryd.func54, Tryd.ntmps54
  go_wp2_with fail
  refine (appendWord_any _ B v l (a / 65536) hown (by omega) hB (by omega) (by omega)).mono ?_
  rintro e w1 ⟨v1, rfl, o1, b1⟩
  go_wp2_with fail
  refine (appendWord_any _ B v1 _ (a % 65536) o1 (by simp; omega) (by have := b1.size; omega) (by omega) (by omega)).mono ?_
  rintro e w2 ⟨v2, rfl, o2, b2⟩
  go_wp2_with fail
  go_ret
  exact ⟨_, rfl, by simpa [adr] using o2, b1.trans b2⟩
/-- an address -/
structure Ad (a : Int) : Prop where
  l : 0 ≤ a
  u : a ≤ 4294967295
set_option maxHeartbeats 1000000 in
theorem Under_any (f t p n : Int) (w : World) (hf : Ad f) (ht : Ad t) :
    Calls Tryd.prog 46 #[.int .u32 f, .int .u32 t, .int .i64 p, .int .i64 n] w fun e w' => e = .returned (.string ⟨(und f t p n).toArray⟩) ∧ Below w.heap.size w w' := by
  have eb : ((b8 p).toNat : Int) = p % 256 := b8_at p
  go_enter Tryd.func46, Tryd.ntmps46
  go_wp2_with (at_make; refine make_own _ rfl _ _ rfl w.heap.size _ _ _ 12 rfl rfl ?c1 (by omega) (Nat.le_refl _) ?_)
  case c1 => simp
  intro v1 w1 o1 l1
  have z1 := l1.size
  go_wp2_with fail
  refine (appendAddress_any _ w.heap.size v1 _ f o1 (by simp) z1 hf.l hf.u).mono ?_
  rintro e w2 ⟨v2, rfl, o2, l2'⟩
  have l2 := l1.trans l2'
  have z2 := l2.size
  clear o1 l1 l2' z1
  go_wp2_with fail
  refine (appendAddress_any _ w.heap.size v2 _ t o2 (by simp [adr]) z2 ht.l ht.u).mono ?_
  rintro e w3 ⟨v3, rfl, o3, l3'⟩
  have l3 := l2.trans l3'
  have z3 := l3.size
  clear o2 l2 l3' z2
  go_wp2_with (at_builtin; refine app_own _ rfl _ _ rfl w.heap.size _ _ rfl (o3.alloc _) ⟨w3.heap.size, 0, none⟩ 2 2 [0, b8 p] rfl rfl ?c2 (by simp [adr]) (by simp; omega) ?_)
  case c2 =>
    intro j hj
    match j, hj with
    | 0, _ => simp [Addr.add]
    | 1, _ => simp [Addr.add, eb]
  intro v4 w4 o4 l4'
  have l4 := (l3.alloc z3 _).trans l4'
  have z4 := l4.size
  clear o3 l3 l4' z3
  go_wp2_with fail
  refine (appendWord_any _ w.heap.size v4 _ (n % 65536) o4 (by simp [adr]) z4 (by omega) (by omega)).mono ?_
  rintro e w5 ⟨v5, rfl, o5, l5'⟩
  have l5 := l4.trans l5'
  have o6 : Own w5 w.heap.size v5 (und f t p n) := by simpa [und] using o5
  have hs := str_own o6
  clear o4 l4 l5' z4 o5 o6
  go_wp2_with fail
  go_ret
  exact ⟨rfl, l5⟩
/-- what CHECK is made of -/
def uns (f t : Int) (s : ByteArray) : ByteArray := ⟨(und f t 17 s.size).toArray⟩ ++ s
theorem uns_list (f t : Int) (s : ByteArray) : (uns f t s).data.toList = und f t 17 s.size ++ s.data.toList := by simp [uns]
theorem uns_size (f t : Int) (s : ByteArray) : (uns f t s).size = 12 + s.size := by
  have : (uns f t s).data.toList.length = 12 + s.size := by rw [uns_list, List.length_append, und_len]; simp
  simpa using this
end Go.Proofs.YtpcknkpddinccaaDoor.dgi
