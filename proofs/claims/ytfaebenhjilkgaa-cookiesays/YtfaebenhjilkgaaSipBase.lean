/- Four numbers as they lie in memory; steps that the hash's walks share. -/
import Derived.Test.YtfaebenhjilkgaaSipTurn
import Derived.Test.YtfaebenhjilkgaaAb
import Derived.Test.YtfaebenhjilkgaaLast
import Derived.Test.YtfaebenhjilkgaaBoxes
import Derived.Test.YtfaebenhjilkgaaEthBase
import Derived.Deep.RegionWith
import Derived.Deep.DeepCutAuto
import Derived.LoopN
import Derived.Test.YtfaebenhjilkgaaTold
namespace Go.Proofs.Ytfaebenhjilkgaa.sipb
open Go.ChangeShapes Go.WideShapes Go.ChangeAt Go.RowKit
open Go.Proofs.Ytfaebenhjilkgaa Go.Proofs.Ytfaebenhjilkgaa.sipm Go.Proofs.Ytfaebenhjilkgaa.boxes Go.Proofs.Ytfaebenhjilkgaa.ethb
open Go.Proofs.Ytfaebenhjilkgaa.sumw (Qd Qd.refl Qd.drewN Qd.trans)

/-- a number -/
abbrev nm (x : UInt64) : Value := .int .u64 (x.toNat : Int)
def uad (a b : UInt64) : UInt64 := a + b
def uxo (a b : UInt64) : UInt64 := a ^^^ b
theorem add_law (a b : UInt64) : IntKind.u64.wrap ((a.toNat : Int) + (b.toNat : Int)) = ((uad a b).toNat : Int) := by
  rw [IntKind.wrap_u64]
  unfold uad
  rw [UInt64.toNat_add]
  omega
theorem xor_law (a b : UInt64) : bits .xor .u64 (a.toNat : Int) (b.toNat : Int) = ((uxo a b).toNat : Int) := by
  unfold uxo
  rw [u64_xor_nat _ _ a.toNat_lt b.toNat_lt, UInt64.toNat_xor]
/-- four numbers in a row -/
abbrev cl (v : V4) : Array Value := #[nm v.a, nm v.b, nm v.c, nm v.d]
theorem v4_info : (Try.prog.info? 54).map (·.size) = some 4 := by kernel_rfl
theorem v4_one (a b c d : UInt64) : (#[nm a, nm b, nm c, nm d]).all (·.oneCell') = true := by simp [Value.oneCell']
theorem gen {W w : World} {b n : Nat} {F : Array Value} {t : TypeId} {p : World → Prop} (h1 : Blk W b F t) (h2 : Below n w W) (h : ∀ W', Blk W' b F t → Below n w W' → p W') : p W := h W h1 h2
theorem qd_below {B : Nat} {w w' : World} (h : Qd w w') : Below B w w' := by
  obtain ⟨m, rfl⟩ := h; exact bdrewN (Below.refl _ _) m
theorem qd_blk {w w' : World} {b : Nat} {F : Array Value} {t : TypeId} (q : Qd w w') (h : Blk w b F t) : Blk w' b F t := by
  obtain ⟨m, rfl⟩ := q; exact h
/-- a cell of one block is written; another block stands -/
theorem put {W w : World} {b c n i : Nat} {F G : Array Value} {t u : TypeId} {x : Value} {p : World → Prop} (h1 : Blk W b F t) (h2 : Blk W c G u) (h3 : Below n w W) (hb : n ≤ b) (hc : c ≠ b)
    (h : ∀ W', Blk W' b (F.setIfInBounds i x) t → Blk W' c G u → Below n w W' → p W') : p (W.setCell ⟨b, i, none⟩ x) :=
  h _ (h1.setCell i x) ((but_setCell W b i x).blk h2 hc) ((but_setCell W b i x).below h3 hb)
theorem gen2 {W w : World} {b c n : Nat} {F G : Array Value} {t u : TypeId} {p : World → Prop} (h1 : Blk W b F t) (h2 : Blk W c G u) (h3 : Below n w W)
    (h : ∀ W', Blk W' b F t → Blk W' c G u → Below n w W' → p W') : p W := h W h1 h2 h3
/-- results: a block -/
theorem blk_ret1 {fn : Func} {p : Tmp} {ty : TypeId} {R : Ending → World → Prop} {a : Act} {W : World} (h : fn.results = #[.cell p ty]) (hd : a.defers = []) (b : Nat) (F : Array Value) (t : TypeId) (hp : a.tmps.getD p undef = .pointer (some ⟨b, 0, none⟩)) (k : Blk W b F t)
    (d : TypeDesc) (hu : Try.prog.underlying ty = some d) (hdd : wideD d = true) (n : Nat) (hi : (Try.prog.info? ty).map (·.size) = some n) (hn : F.size = n)
    (hR : R (.returned (.agg F)) W) : bodyPost Try.prog fn R .ret a W := by
  refine bodyPost_ret (v := .agg F) ?_ hd hR
  simp only [results, h]
  simp [Sem.run_bind, Result.andThen]
  rw [show a.tmps[p]?.getD undef = .pointer (some ⟨b, 0, none⟩) from (by simpa using hp)]
  simp [asAddr, run_loadVar_row W b t ty F (0, 0) d k hu (by cases d <;> first | rfl | cases hdd) (by rw [hn]; exact hi)]
end Go.Proofs.Ytfaebenhjilkgaa.sipb
