/- custref.TextMac of a text that has not six pieces; and the walk through custlaw.EthMacs. -/
import Derived.Test.YtolhmmnaohadcaaDoorEthTextMac
import Derived.Test.YtolhmmnaohadcaaDoorEthMacText
import Derived.Test.YtolhmmnaohadcaaDoorMacEq
import Derived.Test.YtolhmmnaohadcaaDoorClass
namespace Go.Proofs.YtolhmmnaohadcaaDoor.ethmx
open Go.BigFrame Go.ChangeShapes Go.WideShapes Go.ChangeAt Go.RowKit
open Go.Proofs.YtolhmmnaohadcaaDoor.EM Go.Proofs.YtolhmmnaohadcaaDoor.EH Go.Proofs.YtolhmmnaohadcaaDoor.ethb Go.Proofs.YtolhmmnaohadcaaDoor.boxes Go.Proofs.YtolhmmnaohadcaaDoor.ethp Go.Proofs.YtolhmmnaohadcaaDoor.ethsp Go.Proofs.YtolhmmnaohadcaaDoor.ethtm Go.Proofs.YtolhmmnaohadcaaDoor.ethl
open Go.Proofs.YtolhmmnaohadcaaDoor

set_option maxHeartbeats 1000000 in
theorem textMac_other (s : ByteArray) (w : World) (Q : List ByteArray) (hn : ((Q.length : Int) == 6) = false)
    (CS : ∀ u : World, u.cell? ⟨0, 0, none⟩ = w.cell? ⟨0, 0, none⟩ → Calls Tryd.prog 10 #[.string s, .string ⟨#[58]⟩] u fun e w' => e = .returned (.slice (some ⟨u.heap.size, 0, none⟩) Q.length Q.length) ∧ w' = u.alloc (.cells (Q.map Value.string).toArray 9))
    (h0 : 0 < w.heap.size) :
    Calls Tryd.prog 5 #[.string s] w fun e w' => e = .returned (.tuple #[.agg #[.int .u8 0, .int .u8 0, .int .u8 0, .int .u8 0, .int .u8 0, .int .u8 0], .int .i64 10]) ∧ Below w.heap.size w w' := by
  go_enter Tryd.func5, Tryd.ntmps5
  go_wp2_with fail
  refine (CS _ ?_).mono ?_
  · rw [World.cell?_alloc_past (hn := by simp), World.cell?_alloc_past (hn := h0)]
  rintro e w1 ⟨rfl, rfl⟩
  clear CS
  go_wp2_with fail
  exact bodyPost_ret (v := .tuple #[.agg #[.int .u8 0, .int .u8 0, .int .u8 0, .int .u8 0, .int .u8 0, .int .u8 0], .int .i64 10]) (by simp [results, Tryd.results5, go_sem]) rfl ⟨rfl, (((Below.refl _ _).alloc (Nat.le_refl _) _).alloc (by simp) _).alloc (by simp; omega) _⟩

/-- three blocks stand while calls make others -/
structure K3 (w : World) (b7 : Nat) (M P : Array Value) (b5 : Nat) (W : World) : Prop where
  m : Blk W w.heap.size M 23
  a : Blk W b5 P 23
  b : Blk W b7 P 23
  bel : Below w.heap.size w W
theorem K3.call {w W w' : World} {b5 b7 : Nat} {M P : Array Value} (h : K3 w b7 M P b5 W) (hb : Below W.heap.size W w') : K3 w b7 M P b5 w' :=
  ⟨h.m.below hb h.m.lt, h.a.below hb h.a.lt, h.b.below hb h.b.lt, h.bel.trans (hb.mono h.bel.size)⟩
theorem K3.drew {w W : World} {b5 b7 : Nat} {M P : Array Value} (h : K3 w b7 M P b5 W) : K3 w b7 M P b5 W.drew := ⟨h.m, h.a, h.b, Below.drew h.bel⟩

set_option maxHeartbeats 1000000 in
theorem core (m0 m1 m2 m3 m4 m5 : UInt8) (s T : ByteArray) (p0 p1 p2 p3 p4 p5 e : Int) (B : Bool) (w : World)
    (CP : ∀ u, Hid (Calls Tryd.prog 4 #[.string s] u fun r w' => r = .returned (.tuple #[.agg #[.int .u8 p0, .int .u8 p1, .int .u8 p2, .int .u8 p3, .int .u8 p4, .int .u8 p5], .int .i64 e]) ∧ Below u.heap.size u w'))
    (CT : ∀ u, Below w.heap.size w u → Hid (Calls Tryd.prog 5 #[.string s] u fun r w' => r = .returned (.tuple #[.agg #[.int .u8 p0, .int .u8 p1, .int .u8 p2, .int .u8 p3, .int .u8 p4, .int .u8 p5], .int .i64 e]) ∧ Below u.heap.size u w'))
    (CM : ∀ u, Hid (Calls Tryd.prog 6 #[.agg #[.int .u8 (m0.toNat : Int), .int .u8 (m1.toNat : Int), .int .u8 (m2.toNat : Int), .int .u8 (m3.toNat : Int), .int .u8 (m4.toNat : Int), .int .u8 (m5.toNat : Int)]] u fun r w' => r = .returned (.bool B) ∧ Below u.heap.size u w'))
    (CS : ∀ u, Hid (Calls Tryd.prog 7 #[.agg #[.int .u8 (m0.toNat : Int), .int .u8 (m1.toNat : Int), .int .u8 (m2.toNat : Int), .int .u8 (m3.toNat : Int), .int .u8 (m4.toNat : Int), .int .u8 (m5.toNat : Int)]] u fun r w' => r = .returned (.string T) ∧ Below u.heap.size u w'))
    (CX : ∀ u, Hid (Calls Tryd.prog 8 #[.agg #[.int .u8 (m0.toNat : Int), .int .u8 (m1.toNat : Int), .int .u8 (m2.toNat : Int), .int .u8 (m3.toNat : Int), .int .u8 (m4.toNat : Int), .int .u8 (m5.toNat : Int)]] u fun r w' => r = .returned (.string T) ∧ Below u.heap.size u w'))
    (hB : ((m0.toNat : Int) % 2 == 1) = B)
    (Z : ∀ u, (Op.equalIn 10000 23 (.agg #[.int .u8 p0, .int .u8 p1, .int .u8 p2, .int .u8 p3, .int .u8 p4, .int .u8 p5]) (.agg #[.int .u8 p0, .int .u8 p1, .int .u8 p2, .int .u8 p3, .int .u8 p4, .int .u8 p5])).run Tryd.prog u = .ok true u) :
    Calls Tryd.prog 3 #[.agg #[.int .u8 (m0.toNat : Int), .int .u8 (m1.toNat : Int), .int .u8 (m2.toNat : Int), .int .u8 (m3.toNat : Int), .int .u8 (m4.toNat : Int), .int .u8 (m5.toNat : Int)], .string s] w fun e w' => e = .returned (.bool true) ∧ Below w.heap.size w w' := by
  have x7 : (m0.toNat : Int).tmod 2 = (m0.toNat : Int) % 2 := Int.tmod_eq_emod_of_nonneg (by omega)
  go_enter Tryd.func3, Tryd.ntmps3
  go_wp2_with fail
  refine (CP _).out.mono ?_
  rintro r w1 ⟨rfl, hb1⟩
  clear CP
  have M1 := (Blk.new _ _ _).below hb1 (by simp)
  have L1 := ((Below.refl w.heap.size w).alloc (Nat.le_refl _) _).trans (hb1.mono (by simp))
  go_wp2_with fail
  refine (CT _ (L1.alloc L1.size _)).out.mono ?_
  rintro r w2 ⟨rfl, hb2⟩
  clear CT
  have M2 := (M1.alloc _).below hb2 (by have := M1.lt; simp; omega)
  have A2 := (Blk.new _ _ _).below hb2 (by simp)
  have L2 := (L1.alloc L1.size _).trans (hb2.mono (by have := L1.size; simp; omega))
  have y2 := hb2.size
  have y1 := L1.size
  simp at y2
  clear hb1 hb2 M1 L1
  go_wp2_with fail
  have G : K3 w w2.heap.size #[.int .u8 (m0.toNat : Int), .int .u8 (m1.toNat : Int), .int .u8 (m2.toNat : Int), .int .u8 (m3.toNat : Int), .int .u8 (m4.toNat : Int), .int .u8 (m5.toNat : Int)] #[.int .u8 p0, .int .u8 p1, .int .u8 p2, .int .u8 p3, .int .u8 p4, .int .u8 p5] w1.heap.size (w2.alloc (.cells #[.int .u8 p0, .int .u8 p1, .int .u8 p2, .int .u8 p3, .int .u8 p4, .int .u8 p5] 23)) := ⟨M2.alloc _, A2.alloc _, Blk.new _ _ _, L2.alloc L2.size _⟩
  generalize w2.alloc (.cells #[.int .u8 p0, .int .u8 p1, .int .u8 p2, .int .u8 p3, .int .u8 p4, .int .u8 p5] 23) = W at *
  clear M2 A2 L2
  have ne : Nonempty (cls.In (K3 w w2.heap.size #[.int .u8 (m0.toNat : Int), .int .u8 (m1.toNat : Int), .int .u8 (m2.toNat : Int), .int .u8 (m3.toNat : Int), .int .u8 (m4.toNat : Int), .int .u8 (m5.toNat : Int)] #[.int .u8 p0, .int .u8 p1, .int .u8 p2, .int .u8 p3, .int .u8 p4, .int .u8 p5] w1.heap.size)) := ⟨⟨W, G⟩⟩
  have cm : ∀ (x : (cls.In (K3 w w2.heap.size #[.int .u8 (m0.toNat : Int), .int .u8 (m1.toNat : Int), .int .u8 (m2.toNat : Int), .int .u8 (m3.toNat : Int), .int .u8 (m4.toNat : Int), .int .u8 (m5.toNat : Int)] #[.int .u8 p0, .int .u8 p1, .int .u8 p2, .int .u8 p3, .int .u8 p4, .int .u8 p5] w1.heap.size))) o, x.W.cell? ⟨w.heap.size, o, none⟩ = (#[.int .u8 (m0.toNat : Int), .int .u8 (m1.toNat : Int), .int .u8 (m2.toNat : Int), .int .u8 (m3.toNat : Int), .int .u8 (m4.toNat : Int), .int .u8 (m5.toNat : Int)] : Array Value)[o]? := fun x => x.h.m.cell
  have ca : ∀ (x : (cls.In (K3 w w2.heap.size #[.int .u8 (m0.toNat : Int), .int .u8 (m1.toNat : Int), .int .u8 (m2.toNat : Int), .int .u8 (m3.toNat : Int), .int .u8 (m4.toNat : Int), .int .u8 (m5.toNat : Int)] #[.int .u8 p0, .int .u8 p1, .int .u8 p2, .int .u8 p3, .int .u8 p4, .int .u8 p5] w1.heap.size))) o, x.W.cell? ⟨w1.heap.size, o, none⟩ = (#[.int .u8 p0, .int .u8 p1, .int .u8 p2, .int .u8 p3, .int .u8 p4, .int .u8 p5] : Array Value)[o]? := fun x => x.h.a.cell
  have cb : ∀ (x : (cls.In (K3 w w2.heap.size #[.int .u8 (m0.toNat : Int), .int .u8 (m1.toNat : Int), .int .u8 (m2.toNat : Int), .int .u8 (m3.toNat : Int), .int .u8 (m4.toNat : Int), .int .u8 (m5.toNat : Int)] #[.int .u8 p0, .int .u8 p1, .int .u8 p2, .int .u8 p3, .int .u8 p4, .int .u8 p5] w1.heap.size))) o, x.W.cell? ⟨w2.heap.size, o, none⟩ = (#[.int .u8 p0, .int .u8 p1, .int .u8 p2, .int .u8 p3, .int .u8 p4, .int .u8 p5] : Array Value)[o]? := fun x => x.h.b.cell
  refine cls.wp_region_class (K3 w w2.heap.size #[.int .u8 (m0.toNat : Int), .int .u8 (m1.toNat : Int), .int .u8 (m2.toNat : Int), .int .u8 (m3.toNat : Int), .int .u8 (m4.toNat : Int), .int .u8 (m5.toNat : Int)] #[.int .u8 p0, .int .u8 p1, .int .u8 p2, .int .u8 p3, .int .u8 p4, .int .u8 p5] w1.heap.size) (by kernel_rfl) (by kernel_rfl) (K3.drew G) ?_
  repeat (go_big_quiet_step (first
    | (go_at_call 6; exact cls.call_class (CM _).out fun _ hb => K3.call (cls.In.h _) hb)
    | (go_at_call 7; exact cls.call_class (CS _).out fun _ hb => K3.call (cls.In.h _) hb)
    | (go_at_call 8; exact cls.call_class (CX _).out fun _ hb => K3.call (cls.In.h _) hb)))
  refine wpQuiet_nil ?_
  intro _ hx
  obtain ⟨x, rfl⟩ := hx
  go_wp2_with fail
  go_ret
  exact ⟨rfl, x.h.bel⟩
end Go.Proofs.YtolhmmnaohadcaaDoor.ethmx
