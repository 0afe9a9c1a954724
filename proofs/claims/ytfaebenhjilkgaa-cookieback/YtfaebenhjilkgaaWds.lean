/- Worlds that have at most drawn; rows of bytes of the call's own that are written in place; bytes of a text; custref.WordAt and Long. -/
import Derived.Test.YtfaebenhjilkgaaIpMath
import Derived.Test.YtfaebenhjilkgaaSumWalk
import Derived.Test.YtfaebenhjilkgaaBufMore
import Derived.Test.YtfaebenhjilkgaaBoxes
import Derived.Test.YtfaebenhjilkgaaRefBytes
namespace Go.Proofs.Ytfaebenhjilkgaa.wds
open Go.ChangeShapes Go.WideShapes Go.ChangeAt Go.RowKit
open Go.Proofs.Ytfaebenhjilkgaa.EM Go.Proofs.Ytfaebenhjilkgaa.ethb Go.Proofs.Ytfaebenhjilkgaa.SM Go.Proofs.Ytfaebenhjilkgaa.ipb Go.Proofs.Ytfaebenhjilkgaa.buf Go.Proofs.Ytfaebenhjilkgaa.boxes
open Go.Proofs.Ytfaebenhjilkgaa.sumw (Qd)
open Go.Proofs.Ytfaebenhjilkgaa.refb (word_ref)
open Go.Proofs.Ytfaebenhjilkgaa.ipm (bytes_ext ext_list)

theorem qd_below {B : Nat} {w w' : World} (h : Qd w w') : Below B w w' := by
  obtain ⟨m, rfl⟩ := h; exact bdrewN (Below.refl _ _) m
theorem qd_own {w w' : World} {B : Nat} {v : Value} {l : List UInt8} (q : Qd w w') (h : Own w B v l) : Own w' B v l := by
  obtain ⟨m, rfl⟩ := q; exact h.drewN m
theorem qd_blk {w w' : World} {b : Nat} {F : Array Value} {t : TypeId} (q : Qd w w') (h : Blk w b F t) : Blk w' b F t := by
  obtain ⟨m, rfl⟩ := q; exact h.drewN m
theorem qd_size {w w' : World} (q : Qd w w') : w'.heap.size = w.heap.size := by
  obtain ⟨m, rfl⟩ := q; rfl
theorem own_blk {w : World} {B : Nat} {v : Value} {l : List UInt8} (h : Own w B v l) (hl : 0 < l.length) :
    ∃ g cap cur, v = .slice (some ⟨g, 0, none⟩) l.length cap ∧ B ≤ g ∧ Blk w g cur 5 ∧ l.length ≤ cap ∧ cap ≤ maxLen ∧ cur.size = cap ∧ cur.toList.take l.length = bc l := by
  rcases h.2 with ⟨rfl, hn⟩ | ⟨g, cap, cur, rfl, hB, hg, hnc, hm, hcs, htake⟩
  · omega
  · exact ⟨g, cap, cur, rfl, hB, hg, hnc, hm, by simpa using hcs, by simpa using htake⟩
theorem own_of {w : World} {B g cap : Nat} {cur : Array Value} {l : List UInt8} (hB : B ≤ g) (hg : Blk w g cur 5) (hc : l.length ≤ cap) (hm : cap ≤ maxLen) (hs : cur.size = cap) (ht : cur.toList.take l.length = bc l) :
    Own w B (.slice (some ⟨g, 0, none⟩) l.length cap) l :=
  ⟨by simp [bc_length], Or.inr ⟨g, cap, cur, rfl, hB, hg, hc, hm, by simpa using hs, by simpa using ht⟩⟩
theorem bc_set (l : List UInt8) (i : Nat) (x : UInt8) : bc (l.set i x) = (bc l).set i (.int .u8 x.toNat) := by
  unfold bc; rw [List.map_set]
theorem take_set (cur : Array Value) (n i : Nat) (v : Value) : (cur.setIfInBounds i v).toList.take n = (cur.toList.take n).set i v := by
  rw [Array.toList_setIfInBounds, List.take_set]
/-- a word is put into a row of bytes -/
def putw (l : List UInt8) (k : Nat) (n : Int) : List UInt8 := (l.set k (hi8 n)).set (k + 1) (lo8 n)
theorem putw_length (l : List UInt8) (k : Nat) (n : Int) : (putw l k n).length = l.length := by simp [putw]
theorem index_at (s : ByteArray) (k : Nat) (h : k < s.size) (u : World) : (Instr.index 9 (.string s) (.int .i64 (k : Int))).run Try.prog u = .ok (.int .u8 (bt s k)) u := by
  rw [run_index_string u 9 s .i64 _ Try.underlying9, dif_pos ⟨by omega, by omega⟩]
  simp only [Int.toNat_natCast, bt_at s k h]
theorem long_ref (a : Int) (w : World) (h0 : 0 ≤ a) (h1 : a ≤ 4294967295) :
    Calls Try.prog 22 #[.int .u32 a] w fun e w' => e = .returned (.string ⟨(adr a).toArray⟩) ∧ Below w.heap.size w w' := by
  have E : Hid ((⟨#[hi8 (a / 65536), lo8 (a / 65536)]⟩ : ByteArray) ++ ⟨#[hi8 (a % 65536), lo8 (a % 65536)]⟩ = ⟨(adr a).toArray⟩) := by
    show _ = _
    apply bytes_ext
    simp [adr]
  have c1 := fun u => word_ref (a / 65536) u (by omega) (by omega)
  have c2 := fun u => word_ref (a % 65536) u (by omega) (by omega)
  obtain ⟨x, hx⟩ : ∃ x, x = (⟨#[hi8 (a / 65536), lo8 (a / 65536)]⟩ : ByteArray) := ⟨_, rfl⟩
  obtain ⟨y, hy⟩ : ∃ y, y = (⟨#[hi8 (a % 65536), lo8 (a % 65536)]⟩ : ByteArray) := ⟨_, rfl⟩
  rw [← hx] at c1 E
  rw [← hy] at c2 E
  have zx : x.size = 2 := by rw [hx]; rfl
  have zy : y.size = 2 := by rw [hy]; rfl
  clear hx hy
  go_enter Try.func22, Try.ntmps22
  go_wp2_with fail
  refine (c1 _).mono ?_
  rintro e w1 ⟨rfl, b1⟩
  go_wp2_with fail
  refine (c2 _).mono ?_
  rintro e w2 ⟨rfl, b2⟩
  go_wp2_with fail
  go_ret
  exact ⟨by rw [E.out]; rfl, b1.trans (b2.mono b1.size)⟩
end Go.Proofs.Ytfaebenhjilkgaa.wds
