/- The row that a string's conversion makes: what lies in it, and the string that it is turned back to. -/
import Derived.Test.YtpcknkpddinccaaDoorRefBytes
import Derived.Test.YtpcknkpddinccaaDoorSumWalk
import Derived.Laws.IdiomStrings
namespace Go.Proofs.YtpcknkpddinccaaDoor.rwo
open Go.ChangeShapes Go.WideShapes Go.ChangeAt Go.RowKit Go.BigFrame
open Go.Proofs.YtpcknkpddinccaaDoor.sumw (Qd)
open Go.Proofs.YtpcknkpddinccaaDoor.refb (Row Row.put)

theorem row_made (w : World) (s : ByteArray) (cap : Nat) (e : TypeId) :
    Row (w.alloc (.cells (bytesRow s cap) e ((bytesRow s cap).size, (bytesRow s cap).size + 1))) w.heap.size s.data.toList := by
  intro j hj
  have hj' : j < s.data.size := by simpa using hj
  have hj2 : j < s.size := hj'
  have hz : j < (bytesRow s cap).size := by simp [bytesRow]; omega
  refine ⟨?_, ?_⟩
  · rw [World.cell?_alloc_mark]
    simp [bytesRow, Array.getElem?_append, hj2]
  · rw [World.frozen?_alloc_mark]
    simp; omega
theorem row_drew {w : World} {b : Nat} {l : List UInt8} (h : Row w b l) : Row w.drew b l := h
theorem row_quiet {w w' : World} {b : Nat} {l : List UInt8} (h : Row w b l) (q : Qd w w') : Row w' b l := by
  obtain ⟨m, rfl⟩ := q; exact h
theorem row_back {w : World} {b cap : Nat} {l : List UInt8} (h : Row w b l) : (convert 36 9 (.slice (some ⟨b, 0, none⟩) l.length cap)).run Tryd.prog w = .ok (.string ⟨l.toArray⟩) w :=
  run_convert_bytes_back (P := Tryd.prog) w 36 9 5 ⟨b, 0, none⟩ cap l Tryd.underlying36 Tryd.underlying5 Tryd.underlying9
    (fun j hj => by
      have e : (⟨b, 0, none⟩ : Addr).add j = ⟨b, j, none⟩ := by unfold Addr.add; split <;> simp_all
      rw [e]; exact (h j hj).1)
theorem row_below {w w' : World} {b : Nat} {l : List UInt8} (h : Row w b l) (hb : Below w.heap.size w w') (lt : b < w.heap.size) : Row w' b l := fun j hj =>
  ⟨(hb.cell (p := ⟨b, j, none⟩) lt).trans (h j hj).1, (hb.frozen (p := ⟨b, j, none⟩) lt).trans (h j hj).2⟩
theorem row_alloc {w : World} {b : Nat} {l : List UInt8} (h : Row w b l) (lt : b < w.heap.size) (o : Obj) : Row (w.alloc o) b l := row_below h ((Below.refl _ _).alloc (Nat.le_refl _) _) lt
theorem row_lt {w : World} {b : Nat} {l : List UInt8} (h : Row w b l) (hl : 0 < l.length) : b < w.heap.size := by
  by_cases hh : b < w.heap.size
  · exact hh
  · exact absurd (World.block_lt_of_cell? _ _ (h 0 hl).1) hh
theorem conv (S : ByteArray) (u : World) : (convert 9 36 (.string S)).run Tryd.prog u = .ok (.slice (some ⟨u.heap.size, 0, none⟩) S.size (grownCap u S.size 0 5))
      (u.drew.alloc (.cells (bytesRow S (grownCap u S.size 0 5)) 5 ((bytesRow S (grownCap u S.size 0 5)).size, (bytesRow S (grownCap u S.size 0 5)).size + 1))) :=
  run_bytes_of_string u _ _ _ _ Tryd.underlying9 Tryd.underlying36 Tryd.underlying5
end Go.Proofs.YtpcknkpddinccaaDoor.rwo
