/- What custref.UnderText answers. -/
import Derived.Test.YtpcknkpddinccaaDoorDgIn
import Derived.Test.YtpcknkpddinccaaDoorSumRef
import Derived.Test.YtpcknkpddinccaaDoorRefBytes
namespace Go.Proofs.YtpcknkpddinccaaDoor.undr
open Go.ChangeShapes Go.WideShapes Go.ChangeAt Go.RowKit Go.BigFrame
open Go.Proofs.YtpcknkpddinccaaDoor Go.Proofs.YtpcknkpddinccaaDoor.EM Go.Proofs.YtpcknkpddinccaaDoor.ethb Go.Proofs.YtpcknkpddinccaaDoor.SM Go.Proofs.YtpcknkpddinccaaDoor.ipb Go.Proofs.YtpcknkpddinccaaDoor.boxes Go.Proofs.YtpcknkpddinccaaDoor.wds Go.Proofs.YtpcknkpddinccaaDoor.dgb Go.Proofs.YtpcknkpddinccaaDoor.dgi
open Go.Proofs.YtpcknkpddinccaaDoor.refb (bytes_any word_ref between_any)
open Go.Proofs.YtpcknkpddinccaaDoor.ipm (bytes_ext ext_list size_list)

theorem und_joined (f t p n : Int) : (⟨(adr f).toArray⟩ : ByteArray) ++ ⟨(adr t).toArray⟩ ++ ⟨#[hi8 (p % 256), lo8 (p % 256)]⟩ ++ ⟨#[hi8 (n % 65536), lo8 (n % 65536)]⟩ = ⟨(und f t p n).toArray⟩ := by
  apply bytes_ext
  have e1 : hi8 (p % 256) = 0 := by unfold hi8; rw [show p % 256 / 256 = 0 by omega]; rfl
  have e2 : lo8 (p % 256) = b8 p := by unfold lo8 b8; rw [show p % 256 % 256 = p % 256 by omega]
  simp [und, e1, e2]
theorem rem_twice (p m : Int) (hm : 0 < m) : (p.tmod m + m).tmod m = p % m := by
  have h1 := Int.tmod_lt_of_pos p hm
  have h2 := Int.lt_tmod_of_pos p hm
  rw [Int.tmod_eq_emod_of_nonneg (by omega), Int.add_emod_right]
  rw [Int.tmod_eq_emod]
  split
  · simp
  · have e : ((m.natAbs : Nat) : Int) = m := by omega
    rw [e, Int.sub_emod, Int.emod_self, Int.sub_zero, Int.emod_emod, Int.emod_emod]
set_option maxHeartbeats 1000000 in
theorem underText_any (f t p n : Int) (w : World) (hf : Ad f) (ht : Ad t) :
    Calls Tryd.prog 33 #[.int .u32 f, .int .u32 t, .int .i64 p, .int .i64 n] w fun e w' => e = .returned (.string ⟨(und f t p n).toArray⟩) ∧ Below w.heap.size w w' := by
  have E : Hid (_ = (⟨(und f t p n).toArray⟩ : ByteArray)) := und_joined f t p n
  have c1 := fun u => long_ref f u hf.l hf.u
  have c2 := fun u => long_ref t u ht.l ht.u
  have c3 := fun u => word_ref (p % 256) u (by omega) (by omega)
  have c4 := fun u => word_ref (n % 65536) u (by omega) (by omega)
  have z1 : (⟨(adr f).toArray⟩ : ByteArray).size = 4 := rfl
  have z2 : (⟨(adr t).toArray⟩ : ByteArray).size = 4 := rfl
  have z3 : (⟨#[hi8 (p % 256), lo8 (p % 256)]⟩ : ByteArray).size = 2 := rfl
  have z4 : (⟨#[hi8 (n % 65536), lo8 (n % 65536)]⟩ : ByteArray).size = 2 := rfl
  generalize (⟨(adr f).toArray⟩ : ByteArray) = x1 at E c1 z1
  generalize (⟨(adr t).toArray⟩ : ByteArray) = x2 at E c2 z2
  generalize (⟨#[hi8 (p % 256), lo8 (p % 256)]⟩ : ByteArray) = x3 at E c3 z3
  generalize (⟨#[hi8 (n % 65536), lo8 (n % 65536)]⟩ : ByteArray) = x4 at E c4 z4
  have r1 := rem_twice p 256 (by omega)
  have r2 := rem_twice n 65536 (by omega)
  have q1 := Int.tmod_lt_of_pos p (show (0 : Int) < 256 by omega)
  have q2 := Int.lt_tmod_of_pos p (show (0 : Int) < 256 by omega)
  have q3 := Int.tmod_lt_of_pos n (show (0 : Int) < 65536 by omega)
  have q4 := Int.lt_tmod_of_pos n (show (0 : Int) < 65536 by omega)
  go_enter Tryd.func33, Tryd.ntmps33
  go_wp2_with fail
  refine (c1 _).mono ?_
  rintro e w1 ⟨rfl, b1⟩
  go_wp2_with fail
  refine (c2 _).mono ?_
  rintro e w2 ⟨rfl, b2'⟩
  have b2 := b1.trans (b2'.mono b1.size)
  clear c1 c2 b1 b2'
  go_wp2_with fail
  refine (c3 _).mono ?_
  rintro e w3 ⟨rfl, b3'⟩
  have b3 := b2.trans (b3'.mono b2.size)
  clear c3 b2 b3'
  go_wp2_with fail
  refine (c4 _).mono ?_
  rintro e w4 ⟨rfl, b4'⟩
  have b4 := b3.trans (b4'.mono b3.size)
  clear c4 b3 b4'
  go_wp2_with fail
  go_ret
  exact ⟨by rw [E.out]; rfl, b4⟩
end Go.Proofs.YtpcknkpddinccaaDoor.undr
