/- The walk through custkeep.FragBounds. -/
import Derived.Test.YtlbpapngcgnepaaFragKeep2
import Derived.Test.YtlbpapngcgnepaaFragPR
import Derived.Test.YtlbpapngcgnepaaFragLives
import Derived.Test.YtlbpapngcgnepaaFragBackIn
namespace Go.Proofs.Ytlbpapngcgnepaa.frbd
open Go.ChangeShapes Go.WideShapes Go.ChangeAt Go.RowKit Go.BigFrame
open Go.Proofs.Ytlbpapngcgnepaa Go.Proofs.Ytlbpapngcgnepaa.ipb Go.Proofs.Ytlbpapngcgnepaa.boxes Go.Proofs.Ytlbpapngcgnepaa.ipr Go.Proofs.Ytlbpapngcgnepaa.frb Go.Proofs.Ytlbpapngcgnepaa.frp Go.Proofs.Ytlbpapngcgnepaa.pl Go.Proofs.Ytlbpapngcgnepaa.frt Go.Proofs.Ytlbpapngcgnepaa.frfe Go.Proofs.Ytlbpapngcgnepaa.frl Go.Proofs.Ytlbpapngcgnepaa.frbi Go.Proofs.Ytlbpapngcgnepaa.frk Go.Proofs.Ytlbpapngcgnepaa.frx
open Go.Proofs.Ytlbpapngcgnepaa.rws (Own Knd)

/-- packets that a program may hold -/
def Pl (l : List Pk) : Prop := ∀ p ∈ l, p.Adr ∧ 20 + p.o.size + p.d.size ≤ 9223372036854775807
theorem call (v : Value) (L : List Hp) (p : Pk) (w : World) (h : PRd w v L) (he : perr L = 0) (hp : p.Adr ∧ 20 + p.o.size + p.d.size ≤ 9223372036854775807) :
    Calls Try.prog 12 #[v, .agg p.cells] w fun e w' => ∃ (v' : Value) (T : Tk), e = .returned (.tuple #[v', .agg T.q.cells, .bool T.ok, .int .i64 T.e]) ∧ (∃ Q, Pool w' w.heap.size v' Q ∧ Q.map Hq.p = T.L) ∧ Hid (perr T.L = 0) ∧ Hid (T.ok = true → T.q.mo = false ∧ T.q.st = 0) ∧ Below w.heap.size w w' := by
  have g := good_of he
  refine (feed_any v L p w h (fun x hx q hq => by have := (g.sm x hx q hq).d1; omega) (by have := g.n; omega) (fun x hx => by have := g.ps x hx; omega) hp.2 hp.1).mono ?_
  rintro e w' ⟨v', Q, rfl, hP, hQ, hb⟩
  exact ⟨v', feed L p, rfl, ⟨Q, hP, hQ⟩, feed_keeps p he fun h => Pk.ok h, feed_whole L p, hb⟩
set_option maxRecDepth 20000 in
set_option maxHeartbeats 4000000 in
theorem some_ (b off sc n : Nat) (l : List Pk) (w : World) (hn : n = l.length) (hm : n ≤ 9223372036854775807) (hb : 0 < n → b < w.heap.size)
    (hc : ∀ j y, l[j]? = some y → ∀ i, i < 11 → w.cell? ⟨b, off + j * 11 + i, none⟩ = (y.cells)[i]?) (hl : Pl l) (sa : Option Addr) (hsa : 0 < n → sa = some ⟨b, off, none⟩) :
    Calls Try.prog 7 #[.slice sa n sc] w fun e w' => e = .returned (.bool true) ∧ Below w.heap.size w w' := by
  have HL : Hid (n = l.length ∧ Pl l) := ⟨hn, hl⟩
  clear hn hl
  go_enter Try.func7, Try.ntmps7
  go_wp2_with fail
  go_loopw [3, 5, 6, 7, 10] (fun s3 s5 s6 s7 s10 wr => ∃ (i : Nat) (L : List Hp), s10 = .int .i64 (i : Int) ∧ i ≤ n ∧ Hid (perr L = 0) ∧ PRd wr s3 L ∧ Below w.heap.size w wr) (fun _ _ _ _ i _ => n - (intOf i).toNat)
  case atStart => exact ⟨0, [], rfl, Nat.zero_le _, (by decide : perr [] = 0), prd_nil _, Below.refl _ _⟩
  case round =>
    obtain ⟨i, L, rfl, hi, HE, hP, bel⟩ := hrel
    by_cases hlt : i < n
    · have hlt' : (i : Int) < (n : Int) := by omega
      have esa := hsa (by omega)
      subst esa
      have hb := hb (by omega)
      obtain ⟨p, hp⟩ : ∃ p, l[i]? = some p := ⟨_, List.getElem?_eq_getElem (by have := HL.out.1; omega)⟩
      have hpl := HL.out.2 p (List.mem_of_getElem? hp)
      have hc1 : ∀ j y, l[j]? = some y → ∀ i, i < 11 → wr.cell? ⟨b, off + j * 11 + i, none⟩ = (y.cells)[i]? := fun j y hj k hk => (bel.cell (p := ⟨b, off + j * 11 + k, none⟩) hb).trans (hc j y hj k hk)
      have hbr : b < wr.heap.size := Nat.lt_of_lt_of_le hb bel.size
      have Z0 := Blk.new wr p.cells 24
      have B0 := (Below.refl wr.heap.size wr).alloc (Nat.le_refl _) (.cells p.cells 24)
      go_wp2_with (refine rd_load PK _ rfl _ rfl b off l hc1 i _ rfl rfl p hp p.cells rfl _ Try.underlying24 rfl ?_)
      have B1 := B0.alloc B0.size (.cells zeroP.cells 24)
      have Z1 : Blk ((wr.alloc (.cells p.cells 24)).alloc (.cells zeroP.cells 24)) (wr.heap.size + 1) zeroP.cells 24 := Blk.newAt _ _ _ (by simp)
      have CF := call u3 L p ((wr.alloc (.cells p.cells 24)).alloc (.cells zeroP.cells 24)) (hP.below B1) HE.out hpl
      have bel1 := bel.trans (B1.mono bel.size)
      have sz1 : ((wr.alloc (.cells p.cells 24)).alloc (.cells zeroP.cells 24)).heap.size = wr.heap.size + 1 + 1 := by simp
      have szr := bel.size
      clear hP HE hpl Z0 B0 B1 hc1
      refine CF.mono ?_
      rintro r w5 ⟨v5, T, rfl, ⟨Q5, P5, hQ5⟩, HT, HW, hb5⟩
      have Z5 := Z1.below hb5 Z1.lt
      have bel5 := bel1.trans (hb5.mono bel1.size)
      obtain ⟨q, ok, er, LT⟩ : ∃ (q : Pk) (ok : Bool) (er : Int), Hid (T.q = q ∧ T.ok = ok ∧ T.e = er) := ⟨_, _, _, rfl, rfl, rfl⟩
      rw [LT.out.1, LT.out.2.1, LT.out.2.2]
      have HQ : Hid (Q5.map Hq.p = T.L) := hQ5
      clear hQ5 CF hb5 Z1 bel1
      go_wp2_with (refine blk_store _ rfl 24 _ _ rfl (wr.heap.size + 1) q.cells rfl rfl _ _ Z5 11 pk_info rfl rfl (pk_one q) ?_)
      intro W6 k6 u6
      have P6 := frt.Pool.but P5 Z5 u6
      have hP6 := pool_prd P6
      rw [HQ.out] at hP6
      have bel6 := u6.below bel5 (by omega)
      have g := good_of HT.out
      have CR := fun u hu => frpr.right_any v5 T.L u hu (fun x hx q hq => by have := (g.sm x hx q hq).d1; omega)
      have CC := fun u hu => frc.check_any v5 T.L u hu (fun x hx q hq => by have := (g.sm x hx q hq).d1; omega)
      rw [HT.out] at CR CC
      clear u6 Z5 P5 P6 bel5 HQ g bel sz1
      go_wp2_with fail
      refine (CR _ hP6).mono ?_
      rintro r w7 ⟨rfl, hb7⟩
      have hP7 := hP6.below hb7
      have k7 := k6.below hb7 k6.lt
      have bel7 := bel6.trans (hb7.mono bel6.size)
      clear CR hP6 k6 bel6 hb7
      go_wp2_with fail
      refine (CC _ hP7).mono ?_
      rintro r w8 ⟨rfl, hb8⟩
      have hP8 := hP7.below hb8
      have k8 := k7.below hb8 k7.lt
      have bel8 := bel7.trans (hb8.mono bel7.size)
      clear CC hP7 k7 bel7 hb8
      cases ok with
      | false =>
        go_wp2_with fail
        go_roundw
        case rel => exact ⟨i + 1, T.L, by simp, by omega, HT, hP8, bel8⟩
        case measure => simp [intOf]; omega
      | true =>
        have hw := HW.out LT.out.2.1
        rw [LT.out.1] at hw
        have c3 : w8.cell? ⟨wr.heap.size + 1, 3, none⟩ = some (.bool false) := by rw [k8.cell 3]; show some (Value.bool q.mo) = _; rw [hw.1]
        have c4 : w8.cell? ⟨wr.heap.size + 1, 4, none⟩ = some (.int .i64 0) := by rw [k8.cell 4]; show some (Value.int .i64 q.st) = _; rw [hw.2]
        clear hw k8
        go_wp2_with fail
        go_roundw
        case rel => exact ⟨i + 1, T.L, by simp, by omega, HT, hP8, bel8⟩
        case measure => simp [intOf]; omega
    · have hlt' : ¬ (i : Int) < (n : Int) := by omega
      go_wp2_with fail
      refine (lives _).mono ?_
      rintro r w2 ⟨rfl, hb2⟩
      have b2 := bel.trans (hb2.mono bel.size)
      go_wp2_with fail
      go_ret
      exact ⟨rfl, b2⟩
/-- a row of packets -/
def Rw (w : World) (v : Value) (l : List Pk) : Prop :=
  ∃ sa sc, v = .slice sa l.length sc ∧ l.length ≤ maxLen ∧ (0 < l.length → ∃ b off, sa = some ⟨b, off, none⟩ ∧ b < w.heap.size ∧ ∀ j y, l[j]? = some y → ∀ i, i < 11 → w.cell? ⟨b, off + j * 11 + i, none⟩ = (y.cells)[i]?)
/-- whatever row of packets -/
theorem walk (v : Value) (l : List Pk) (w : World) (h : Rw w v l) (hl : Pl l) :
    Calls Try.prog 7 #[v] w fun e w' => e = .returned (.bool true) ∧ Below w.heap.size w w' := by
  obtain ⟨sa, sc, rfl, hm, hc⟩ := h
  by_cases h0 : 0 < l.length
  · obtain ⟨b, off, rfl, hb, hx⟩ := hc h0
    exact some_ b off sc l.length l w rfl (by unfold maxLen at hm; omega) (fun _ => hb) hx hl _ (fun _ => rfl)
  · exact some_ 0 0 sc l.length l w rfl (by unfold maxLen at hm; omega) (fun h => absurd h h0) (fun j y hj => by
      have := (List.getElem?_eq_some_iff.1 hj).1; omega) hl _ (fun h => absurd h h0)
end Go.Proofs.Ytlbpapngcgnepaa.frbd
