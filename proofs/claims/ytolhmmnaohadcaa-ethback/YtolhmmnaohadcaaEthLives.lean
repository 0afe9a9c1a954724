/- custkeep.ethLives answers true. A block that is kept while calls make others. That a frame is equal to itself. -/
import Derived.Test.YtolhmmnaohadcaaEthWrite
import Derived.DeepKeys
namespace Go.Proofs.Ytolhmmnaohadcaa.ethl
open Go.ChangeShapes Go.WideShapes Go.ChangeAt Go.RowKit
open Go.Proofs.Ytolhmmnaohadcaa.EM Go.Proofs.Ytolhmmnaohadcaa.ethb Go.Proofs.Ytolhmmnaohadcaa.ethw

theorem write_known (w : World) :
    Calls Try.prog 6 #[.agg (frame 1 0 0 0 0 0 2 0 0 0 0 0 5 2048 ⟨#[120]⟩)] w fun e w' =>
      e = .returned (.tuple #[.string ⟨#[1, 0, 0, 0, 0, 0, 2, 0, 0, 0, 0, 0, 129, 0, 0, 5, 8, 0, 120]⟩, .int .i64 0]) ∧ Below w.heap.size w w' :=
  write_ok 1 0 0 0 0 0 2 0 0 0 0 0 5 2048 ⟨#[120]⟩ w (by decide)
theorem lives (w : World) : Calls Try.prog 12 #[] w fun e w' => e = .returned (.bool true) ∧ Below w.heap.size w w' := by
  go_enter Try.func12, Try.ntmps12
  go_wp2_with fail
  refine (write_known _).mono ?_
  rintro e w1 ⟨rfl, hb⟩
  go_wp2_with fail
  go_ret
  exact ⟨rfl, hb⟩

/-- a block b of the world W holds the cells F, and may be written -/
structure Box (W : World) (b : Nat) (F : Array Value) : Prop where
  lt : b < W.heap.size
  cell : ∀ o, W.cell? ⟨b, o, none⟩ = F[o]?
  free : ∀ o, W.frozen? ⟨b, o, none⟩ = false
theorem Box.new (W : World) (F : Array Value) (t : TypeId) : Box (W.alloc (.cells F t)) W.heap.size F :=
  ⟨by simp, fun o => World.cell?_alloc_at F t _ o rfl, fun o => World.frozen?_alloc_at F t _ o rfl⟩
theorem Box.newAt (W : World) (F : Array Value) (t : TypeId) {b : Nat} (hb : b = W.heap.size) : Box (W.alloc (.cells F t)) b F := by subst hb; exact Box.new W F t
theorem Box.drew {W : World} {b : Nat} {F : Array Value} (h : Box W b F) : Box W.drew b F := ⟨h.lt, h.cell, h.free⟩
theorem Box.drewN {W : World} {b : Nat} {F : Array Value} (h : Box W b F) (n : Nat) : Box (W.drewN n) b F := ⟨h.lt, h.cell, h.free⟩
theorem Box.alloc {W : World} {b : Nat} {F : Array Value} (h : Box W b F) (o : Obj) : Box (W.alloc o) b F :=
  ⟨by have := h.lt; simp; omega, fun i => (World.cell?_alloc_past o b i h.lt).trans (h.cell i), fun i => (World.frozen?_alloc_past o b i h.lt).trans (h.free i)⟩
theorem Box.below {W w' : World} {b : Nat} {F : Array Value} (h : Box W b F) (hb : Below W.heap.size W w') : Box w' b F :=
  ⟨Nat.lt_of_lt_of_le h.lt hb.size, fun i => (hb.cell (p := ⟨b, i, none⟩) h.lt).trans (h.cell i), fun i => (hb.frozen (p := ⟨b, i, none⟩) h.lt).trans (h.free i)⟩

theorem mac_eq (a0 a1 a2 a3 a4 a5 : Int) (h0 : (Lit.int .u8 a0).wf = true) (h1 : (Lit.int .u8 a1).wf = true) (h2 : (Lit.int .u8 a2).wf = true) (h3 : (Lit.int .u8 a3).wf = true) (h4 : (Lit.int .u8 a4).wf = true) (h5 : (Lit.int .u8 a5).wf = true) (d : Nat) (w : World) :
    (Op.equalIn (d + 2) 23 (.agg #[.int .u8 a0, .int .u8 a1, .int .u8 a2, .int .u8 a3, .int .u8 a4, .int .u8 a5]) (.agg #[.int .u8 a0, .int .u8 a1, .int .u8 a2, .int .u8 a3, .int .u8 a4, .int .u8 a5])).run Try.prog w = .ok true w := by
  have c1 : Try.prog.cellsOf 5 = 1 := by kernel_rfl
  have c6 : Try.prog.cellsOf 23 = 6 := by kernel_rfl
  have hk : ∀ a : Int, (Lit.int .u8 a).wf = true → Try.prog.keyLits 1 5 [.int .u8 a] = some [.int .u8 a] := fun a ha => by
    simp [Program.keyLits, Try.underlying5, ha]
  have hL : Try.prog.keyLits 2 23 [.int .u8 a0, .int .u8 a1, .int .u8 a2, .int .u8 a3, .int .u8 a4, .int .u8 a5] = some [.int .u8 a0, .int .u8 a1, .int .u8 a2, .int .u8 a3, .int .u8 a4, .int .u8 a5] := by
    unfold Program.keyLits
    simp [Try.underlying23, c1, c6, List.range_succ, hk _ h0, hk _ h1, hk _ h2, hk _ h3, hk _ h4, hk _ h5]
  have hf : Value.formed Try.prog 23 (.agg #[.int .u8 a0, .int .u8 a1, .int .u8 a2, .int .u8 a3, .int .u8 a4, .int .u8 a5]) = true := by
    simp [Value.formed, Try.underlying23, c6]
  obtain ⟨r, hr, hiff⟩ := run_equalIn_deep (P := Try.prog) d 2 23 (by kernel_rfl) w 2 2 _ _ _ _ hf hf hL hL
  rw [hr, hiff.2 rfl]
end Go.Proofs.Ytolhmmnaohadcaa.ethl
