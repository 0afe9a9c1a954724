/- Texts that are joined in a strings.Builder of the call's own. -/
import Derived.Test.YtlbpapngcgnepaaJoinA
import Derived.Test.YtlbpapngcgnepaaShelf
import Derived.Test.YtlbpapngcgnepaaJoinB
namespace Go.Proofs.Ytlbpapngcgnepaa.fbu
open Go.ChangeShapes Go.WideShapes Go.ChangeAt Go.RowKit Go.BigFrame
open Go.Proofs.Ytlbpapngcgnepaa Go.Proofs.Ytlbpapngcgnepaa.boxes

/-- the builder at b, its bytes among the blocks from B on -/
structure Bu (w : World) (B b : Nat) (l : List UInt8) : Prop where
  le : B ≤ b
  at_ : ∃ p v, (p = none ∨ p = some ⟨b, 0, none⟩) ∧ Blk w b #[.pointer p, v] 105 ∧ buf.Own w (b + 1) v l
theorem Bu.kept {w w' : World} {B b : Nat} {l : List UInt8} (h : Bu w B b l) (hb : Below w.heap.size w w') : Bu w' B b l := by
  obtain ⟨h0, p, v, hp, hB, ho⟩ := h
  exact ⟨h0, p, v, hp, hB.below hb hB.lt, ho.kept hb⟩
theorem Bu.lib {w : World} {B b : Nat} {l : List UInt8} (h : Bu w B b l) : Lib.IsBuilder 105 5 B b (Lib.byteCells l) w := by
  obtain ⟨h0, p, v, hp, hB, ho⟩ := h
  have ho' : w.ownsRow B 5 1 v (Lib.byteCells l).length (Lib.byteCells l) := by
    rw [Lib.byteCells_length]
    exact Joins.ownsRow_le ho (by omega)
  have hn : v.ownBlock ≠ some b := fun e => by have := (World.ownsRow.lt ho b e).1; omega
  rcases hp with rfl | rfl
  · exact Or.inl ⟨h0, v, hB, ho', hn⟩
  · exact Or.inr ⟨h0, v, hB, ho', hn⟩
theorem Bu.lt {w : World} {B b : Nat} {l : List UInt8} (h : Bu w B b l) : b < w.heap.size := by
  obtain ⟨_, p, v, _, hB, _⟩ := h
  exact hB.lt
theorem bsz : ∃ j, Try.prog.info? 105 = some j ∧ j.size = 2 := by
  have h : (Try.prog.info? 105).map (·.size) = some 2 := by kernel_rfl
  obtain ⟨j, hj, hs⟩ := Option.map_eq_some_iff.1 h
  exact ⟨j, hj, hs⟩
set_option maxHeartbeats 2000000 in
set_option maxRecDepth 100000 in
/-- copyCheck: the builder knows itself -/
theorem check_any (p : Option Addr) (v : Value) (b : Nat) (w : World) (hp : p = none ∨ p = some ⟨b, 0, none⟩) (F : Blk w b #[.pointer p, v] 105) :
    Calls Try.prog 90 #[.pointer (some ⟨b, 0, none⟩)] w fun e w' => e = .returned (.tuple #[]) ∧ Blk w' b #[.pointer (some ⟨b, 0, none⟩), v] 105 ∧ But b w w' := by
  obtain ⟨j, hj, hjs⟩ := bsz
  have hsh : w.shape? b = some (105, 2) := by
    have h : w.heap[b]? = some (.cells #[.pointer p, v] 105 (0, 0)) := F
    simp [World.shape?, h]
  have k1 : ∀ u : World, (convert 103 134 (.pointer (some ⟨b, 0, none⟩))).run Try.prog w = .ok (.pointer (some ⟨b, 0, none⟩)) w := fun _ => Lib.run_to_unsafe w ⟨b, 0, none⟩ Try.underlying103 Try.underlying134 hj (by omega) hsh (Nat.zero_lt_succ 1)
  have k2 : (convert 134 103 (.pointer (some ⟨b, 0, none⟩))).run Try.prog w = .ok (.pointer (some ⟨b, 0, none⟩)) w := Lib.run_from_unsafe w ⟨b, 0, none⟩ Try.underlying134 Try.underlying103 hj hsh (by kernel_rfl)
  have k3 : (callFunc 97 #[.pointer (some ⟨b, 0, none⟩)]).run Try.prog w = .ok (.value (.pointer (some ⟨b, 0, none⟩))) w := by
    rw [run_callFunc_extern Try.func97 (by kernel_rfl) (by kernel_rfl) (by kernel_rfl) (e := Extern.AbiNoEscape.same) (by kernel_rfl), Lib.run_noEscape]
    rfl
  have k4 : ∀ u : World, (binOp .neq 103 (.pointer (some ⟨b, 0, none⟩)) (.pointer (some ⟨b, 0, none⟩))).run Try.prog u = .ok (.bool false) u := fun u => Lib.run_neq_ptr_same u _ Try.underlying103 hj
  have k1' := k1 w
  clear k1 hj hjs hsh
  have c := F.cell
  have f := F.free
  have l := F.lt
  rcases hp with rfl | rfl
  · go_enter Try.func90, Try.ntmps90
    go_wp2_with (simp only [k3])
    go_end0
    exact ⟨rfl, F.setCell 0 _, but_setCell w b 0 _⟩
  · go_enter Try.func90, Try.ntmps90
    go_wp2_with fail
    go_end0
    exact ⟨rfl, F, ⟨rfl, rfl, rfl, rfl, fun _ _ => rfl⟩⟩
set_option maxHeartbeats 2000000 in
set_option maxRecDepth 100000 in
/-- a text is put behind -/
theorem write_any (B b : Nat) (l : List UInt8) (s : ByteArray) (w : World) (h : Bu w B b l) (hlen : l.length + s.size ≤ 140737488355328) :
    Calls Try.prog 72 #[.pointer (some ⟨b, 0, none⟩), .string s] w fun e w' => e = .returned (.tuple #[.int .i64 s.size, .nilIface]) ∧ Bu w' B b (l ++ s.data.toList) ∧ Below B w w' := by
  obtain ⟨h0, p, v, hp, hB, ho⟩ := h
  have CC := check_any p v b w hp hB
  have hn : v.ownBlock ≠ some b := fun e => by have := (World.ownsRow.lt ho b e).1; omega
  go_enter Try.func72, Try.ntmps72
  go_wp2_with fail
  refine CC.mono ?_
  rintro e w1 ⟨rfl, F1, u1⟩
  have o1 : buf.Own w1 (b + 1) v l := World.ownsRow.kept (row := some b) ho ⟨u1.os, u1.tape, u1.output, by rw [u1.size]; exact Nat.le_refl _, fun k _ hk => u1.block k (fun e => hk (by rw [e]))⟩ (Or.inr hn)
  have b1 := u1.below (Below.refl B w) h0
  have c1 := F1.cell
  clear CC
  go_wp2_with (at_builtin; refine buf.appS_own _ rfl _ _ rfl (b + 1) v l rfl o1 s rfl hlen F1.lt ?_)
  intro v2 w2 o2 b2
  have F2 := F1.below b2 (by omega)
  have b3 := b1.trans (b2.mono (by omega))
  obtain ⟨a2, n2, k2, rfl⟩ : ∃ a n k, v2 = .slice a n k := by
    rcases o2.2 with ⟨e, _⟩ | ⟨g, c, cur, e, _⟩
    · exact ⟨_, _, _, e⟩
    · exact ⟨_, _, _, e⟩
  have c2 := F2.cell
  have f2 := F2.free
  have l2 := F2.lt
  have hne : (Value.slice a2 n2 k2).ownBlock ≠ some b := fun e => by have := (World.ownsRow.lt o2 b e).1; omega
  have R : Bu (w2.setCell ⟨b, 1, none⟩ (.slice a2 n2 k2)) B b (l ++ s.data.toList) := ⟨h0, some ⟨b, 0, none⟩, .slice a2 n2 k2, Or.inr rfl, F2.setCell 1 _, World.ownsRow.kept (row := some b) o2 ⟨rfl, rfl, rfl, by simp [World.setCell], fun k _ hk => (but_setCell w2 b 1 _).block k (fun e => hk (by rw [e]))⟩ (Or.inr hne)⟩
  have b4 := (but_setCell w2 b 1 (.slice a2 n2 k2)).below b3 h0
  clear c1 F1 o1
  go_wp2_with fail
  go_ret2
  exact ⟨rfl, R, b4⟩
end Go.Proofs.Ytlbpapngcgnepaa.fbu
