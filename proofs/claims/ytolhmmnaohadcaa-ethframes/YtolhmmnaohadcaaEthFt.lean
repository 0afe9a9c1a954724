/- For custref.FrameText: a frame's bytes by their places. -/
import Derived.Test.YtolhmmnaohadcaaRefBytes
import Derived.Test.YtolhmmnaohadcaaBufMore
import Derived.Test.YtolhmmnaohadcaaBoxes
import Derived.Deep.RegionWith
import Derived.Deep.DeepCutAuto
namespace Go.Proofs.Ytolhmmnaohadcaa.ethf
open Go.ChangeShapes Go.WideShapes Go.ChangeAt Go.RowKit
open Go.Proofs.Ytolhmmnaohadcaa.EM Go.Proofs.Ytolhmmnaohadcaa.ethb Go.Proofs.Ytolhmmnaohadcaa.buf Go.Proofs.Ytolhmmnaohadcaa.refb Go.Proofs.Ytolhmmnaohadcaa.boxes

theorem src6 {W : World} {b off : Nat} {F : Array Value} {t : TypeId} (h : Blk W b F t) (x0 x1 x2 x3 x4 x5 : UInt8) (e : ∀ j, j < 6 → F[off + j]? = some (.int .u8 (([x0, x1, x2, x3, x4, x5].getD j 0).toNat : Int))) :
    ∀ j, j < [x0, x1, x2, x3, x4, x5].length → W.cell? ((⟨b, off, none⟩ : Addr).add j) = some (.int .u8 (([x0, x1, x2, x3, x4, x5].getD j 0).toNat : Int)) := by
  intro j hj
  have ea : (⟨b, off, none⟩ : Addr).add j = ⟨b, off + j, none⟩ := by unfold Addr.add; split <;> simp_all
  rw [ea, h.cell]
  exact e j hj
theorem frm0 (t0 t1 t2 t3 t4 t5 f0 f1 f2 f3 f4 f5 : UInt8) (v y : Int) (d : ByteArray) : ∀ j, j < 6 → (frame t0.toNat t1.toNat t2.toNat t3.toNat t4.toNat t5.toNat f0.toNat f1.toNat f2.toNat f3.toNat f4.toNat f5.toNat v y d)[0 + j]? = some (.int .u8 (([t0, t1, t2, t3, t4, t5].getD j 0).toNat : Int)) := by
  intro j hj
  match j, hj with
  | 0, _ | 1, _ | 2, _ | 3, _ | 4, _ | 5, _ => simp
theorem frm6 (t0 t1 t2 t3 t4 t5 f0 f1 f2 f3 f4 f5 : UInt8) (v y : Int) (d : ByteArray) : ∀ j, j < 6 → (frame t0.toNat t1.toNat t2.toNat t3.toNat t4.toNat t5.toNat f0.toNat f1.toNat f2.toNat f3.toNat f4.toNat f5.toNat v y d)[6 + j]? = some (.int .u8 (([f0, f1, f2, f3, f4, f5].getD j 0).toNat : Int)) := by
  intro j hj
  match j, hj with
  | 0, _ | 1, _ | 2, _ | 3, _ | 4, _ | 5, _ => simp
theorem b8_byte (x : UInt8) : b8 (x.toNat : Int) = x := by
  apply UInt8.toNat_inj.1
  have := b8_at (x.toNat : Int)
  have := x.toNat_lt
  omega
theorem bytes_ext {a b : ByteArray} (h : a.data.toList = b.data.toList) : a = b := by
  cases a; cases b; simp_all
/-- the frame's block stands while calls make others -/
def Kept (w : World) (F : Array Value) (W : World) : Prop := Blk W w.heap.size F 25 ∧ Below w.heap.size w W
theorem Kept.call {w W w' : World} {F : Array Value} (h : Kept w F W) (hb : Below W.heap.size W w') : Kept w F w' := ⟨h.1.below hb h.1.lt, h.2.trans (hb.mono h.2.size)⟩
theorem Kept.drew {w W : World} {F : Array Value} (h : Kept w F W) : Kept w F W.drew := ⟨h.1, Below.drew h.2⟩
theorem Kept.new (w : World) (F : Array Value) : Kept w F (w.alloc (.cells F 25)) := ⟨Blk.new _ _ _, (Below.refl _ _).alloc (Nat.le_refl _) _⟩
theorem ret_text {s s' : ByteArray} {a b : Int} (h : s = s') (h' : a = b) : Ending.returned (.tuple #[.string s, .int .i64 a]) = .returned (.tuple #[.string s', .int .i64 b]) := by rw [h, h']
end Go.Proofs.Ytolhmmnaohadcaa.ethf
