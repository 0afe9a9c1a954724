/- The two ways through custkeep.EthRest: a text that is not read, and one that is. -/
import Derived.Test.YtolhmmnaohadcaaEthRead
import Derived.Test.YtolhmmnaohadcaaEthLives
import Derived.Test.YtolhmmnaohadcaaEthCut
namespace Go.Proofs.Ytolhmmnaohadcaa.ethrest
open Go.ChangeShapes Go.WideShapes Go.ChangeAt Go.RowKit
open Go.Proofs.Ytolhmmnaohadcaa.EM Go.Proofs.Ytolhmmnaohadcaa.ethb Go.Proofs.Ytolhmmnaohadcaa.ethr Go.Proofs.Ytolhmmnaohadcaa.ethl Go.Proofs.Ytolhmmnaohadcaa.ethc

theorem zero_eq (d : Nat) (w : World) : (Op.equalIn (d + 2) 23 (.agg #[.int .u8 0, .int .u8 0, .int .u8 0, .int .u8 0, .int .u8 0, .int .u8 0]) (.agg #[.int .u8 0, .int .u8 0, .int .u8 0, .int .u8 0, .int .u8 0, .int .u8 0])).run Try.prog w = .ok true w :=
  mac_eq 0 0 0 0 0 0 (by decide) (by decide) (by decide) (by decide) (by decide) (by decide) d w
theorem bt_wf (s : ByteArray) (k : Nat) : (Lit.int .u8 (bt s k)).wf = true := by
  have := bt_bd s k
  simp [Lit.wf, IntKind.min, IntKind.max, IntKind.signed, IntKind.bits]; omega
set_option maxHeartbeats 1000000 in
theorem restA (s m : ByteArray) (w : World) (hs : s.size ≤ 281474976710656) (h : ¬ rde s = 0) :
    Calls Try.prog 5 #[.string s, .string m] w fun e w' => e = .returned (.bool true) ∧ Below w.heap.size w w' := by
  have R : ∀ u, Hid (Calls Try.prog 8 #[.string s] u fun e w' => e = .returned (.tuple #[.agg zeroF, .int .i64 (rde s)]) ∧ Below u.heap.size u w') := fun u => by
    have e1 : rdf s = zeroF := by unfold rdf; rw [if_neg h]
    rw [← e1]; exact read_any s u hs
  have hc : (rde s == 0) = false := by simpa using h
  obtain ⟨c, E⟩ : ∃ c, c = rde s := ⟨_, rfl⟩
  rw [← E] at hc
  have R' : ∀ u, Hid (Calls Try.prog 8 #[.string s] u fun e w' => e = .returned (.tuple #[.agg zeroF, .int .i64 c]) ∧ Below u.heap.size u w') := fun u => by rw [E]; exact R u
  clear R E h
  have Z : ∀ u, (Op.equalIn 9999 23 (.agg #[.int .u8 0, .int .u8 0, .int .u8 0, .int .u8 0, .int .u8 0, .int .u8 0]) (.agg #[.int .u8 0, .int .u8 0, .int .u8 0, .int .u8 0, .int .u8 0, .int .u8 0])).run Try.prog u = .ok true u := fun u => zero_eq 9997 u
  go_enter Try.func5, Try.ntmps5
  go_wp2_with fail
  refine (R' _).out.mono ?_
  rintro e w1 ⟨rfl, hb1⟩
  go_wp2_with fail
  refine (lives _).mono ?_
  rintro e w2 ⟨rfl, hb2⟩
  have B2 := (Box.new _ _ _).below hb2
  go_wp2_with fail
  refine (lives _).mono ?_
  rintro e w3 ⟨rfl, hb3⟩
  have B3 := B2.below hb3
  have l3 := B3.lt
  have c3 := B3.cell
  go_wp2_with fail
  go_ret
  refine ⟨rfl, ?_⟩
  have z1 := hb1.size
  have z2 := hb2.size
  simp at z2
  exact ((hb1.alloc (by omega) _).trans (hb2.mono (by simp; omega))).trans (hb3.mono (by omega))
end Go.Proofs.Ytolhmmnaohadcaa.ethrest
