/- The package variables that the rows list: a world in which they stand as listed; what a walk has of the list: the table of powers of ten, and that strconv's errors are errors. -/
import Derived.Test.YtedbjhpajpakpaaDoorRows
import Derived.Test.YtedbjhpajpakpaaDoorIpShow
import Derived.WalkKit
import Derived.ProofKit
import Derived.Lib.LaidTab
import Derived.Deep.DeepHandedRow
import Derived.LaidLaws
namespace Go.Proofs.YtedbjhpajpakpaaDoor.ipld
open Go.ChangeShapes Go.WideShapes Go.ChangeAt Go.RowKit
open Go.Proofs.YtedbjhpajpakpaaDoor Go.Proofs.YtedbjhpajpakpaaDoor.ips

/-- what a listed datum lays in cells, two levels deep -/
def lits (d : DataW Unit) : Array Value :=
  match d with
  | .agg ps => (ps.flatMap fun p => match p with
    | .lit (.int k n) => [Value.int k n]
    | .agg qs => qs.map fun q => match q with
      | .lit (.int k n) => Value.int k n
      | _ => undef
    | _ => []).toArray
  | _ => #[]
def lay (cs : Array Value) : Obj → Obj
  | .cells _ t frozen => .cells cs t frozen
  | o => o
abbrev synS : ByteArray := ⟨#[105, 110, 118, 97, 108, 105, 100, 32, 115, 121, 110, 116, 97, 120]⟩
abbrev rngS : ByteArray := ⟨#[118, 97, 108, 117, 101, 32, 111, 117, 116, 32, 111, 102, 32, 114, 97, 110, 103, 101]⟩
/-- so many blocks has the settled world -/
noncomputable def low : Nat := (World.holding Tryd.prog default ⟨#[], #[], []⟩).heap.size
noncomputable def laidHeap (h : Array Obj) : Array Obj :=
  (((((((h.modify 0 (lay #[.iface 109 (.pointer (some ⟨low, 0, none⟩))])).modify 1 (lay #[.iface 109 (.pointer (some ⟨low + 1, 0, none⟩))])).modify 2 (lay (lits Rows.laid_internal_strconv_uint64pow10))).modify 4 (lay (Go.Pinned.utf8FirstZ.map fun (z : Nat) => Value.int .u8 (z : Int)).toArray)).modify 5 (lay (lits Rows.laid_unicode_utf8_acceptRanges))).modify 6 (lay (lits Rows.laid_math_bits_deBruijn32tab))).modify 7 (lay (lits Rows.laid_math_bits_deBruijn64tab)))
noncomputable def laidWorld (os : Os) : World :=
  { World.holding Tryd.prog os ⟨#[.cells #[.string synS] 111, .cells #[.string rngS] 111], #[], []⟩ with heap := laidHeap (World.holding Tryd.prog os ⟨#[.cells #[.string synS] 111, .cells #[.string rngS] 111], #[], []⟩).heap }

theorem laid_mem {P : Program} {w : World} {n : String} {d : DataW Unit} : ∀ {laid : List (String × DataW Unit)} {ps : List MemPlace}, DataW.LaidVars P w laid ps → (n, d) ∈ laid →
    ∃ g t cs fuel p, P.globalNamed n = some g ∧ (P.globals[g]?).map (·.type) = some t ∧ w.var? P n = some cs ∧ DataW.trod (fun _ => ()) P w 0 (fun _ => true) false fuel t cs.toList = some (d, p)
  | [], _, _, hm => by cases hm
  | (m, e) :: r, ps, h, hm => by
    obtain ⟨g, t, cs, fuel, p, q, h1, h2, h3, h4, h5, _⟩ := h
    rcases List.mem_cons.1 hm with e' | hm
    · cases e'
      exact ⟨g, t, cs, fuel, p, h1, h2, h3, h4⟩
    · exact laid_mem h5 hm
theorem tab_data : (Rows.laid_internal_strconv_uint64pow10 : DataW Unit) = Lib.tabData .u64 Lib.pow10Tab := by kernel_rfl
theorem tab_of {W : World} {laid : List (String × DataW Unit)} (h : laidMet Tryd.prog laid W) (hm : ("internal/strconv.uint64pow10", Rows.laid_internal_strconv_uint64pow10) ∈ laid) : Tab W := by
  obtain ⟨ps, hl, _⟩ := h
  obtain ⟨g, t, cs, fuel, p, hg, ht, hv, hd⟩ := laid_mem hl hm
  obtain rfl := Option.some.inj ((show Tryd.prog.globalNamed "internal/strconv.uint64pow10" = some 2 by kernel_rfl).symm.trans hg)
  obtain rfl := Option.some.inj ((show (Tryd.prog.globals[2]?).map (·.type) = some 103 by kernel_rfl).symm.trans ht)
  rw [tab_data] at hd
  have hc := Lib.cells_of_tab Tryd.underlying103 Tryd.underlying58 (by kernel_rfl) (by kernel_rfl) hd
  show W.var? Tryd.prog _ = _
  rw [hv, ← hc]
end Go.Proofs.YtedbjhpajpakpaaDoor.ipld
