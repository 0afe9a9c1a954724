/- The walk through custkeep.IpHopped. -/
import Derived.Test.YtedbjhpajpakpaaDoorIpHopMath
import Derived.Test.YtedbjhpajpakpaaDoorIpLives
namespace Go.Proofs.YtedbjhpajpakpaaDoor.ipho
open Go.ChangeShapes Go.WideShapes Go.ChangeAt Go.RowKit Go.BigFrame
open Go.Proofs.YtedbjhpajpakpaaDoor Go.Proofs.YtedbjhpajpakpaaDoor.EM Go.Proofs.YtedbjhpajpakpaaDoor.ethb Go.Proofs.YtedbjhpajpakpaaDoor.SM Go.Proofs.YtedbjhpajpakpaaDoor.ipb Go.Proofs.YtedbjhpajpakpaaDoor.buf Go.Proofs.YtedbjhpajpakpaaDoor.boxes Go.Proofs.YtedbjhpajpakpaaDoor.ipi Go.Proofs.YtedbjhpajpakpaaDoor.ipw Go.Proofs.YtedbjhpajpakpaaDoor.ipr Go.Proofs.YtedbjhpajpakpaaDoor.iph Go.Proofs.YtedbjhpajpakpaaDoor.iphm Go.Proofs.YtedbjhpajpakpaaDoor.ips Go.Proofs.YtedbjhpajpakpaaDoor.ipl
open Go.Proofs.YtedbjhpajpakpaaDoor.ipm (red)

set_option maxHeartbeats 2000000 in
theorem bad (s : ByteArray) (w : World) (hs : s.size ≤ 281474976710656) (ht : Tab w) (h : ¬ ire s = 0) :
    Calls Tryd.prog 5 #[.string s] w fun e w' => e = .returned (.bool true) ∧ Below w.heap.size w w' := by
  have CR := fun u => read_any s u hs
  have CH := fun u => hop_any s u hs
  have CL := fun u h => lives u h
  have e1 : hope s = ire s := by unfold hope; rw [if_neg h]
  have e2 : hops s = ⟨#[]⟩ := by unfold hops; rw [e1, if_neg h]
  rw [e1, e2] at CH
  generalize ird s = R at CR
  generalize ire s = g at CR CH h
  have h' : (g != 0) = true := by simpa using h
  clear h e1 e2
  go_enter Tryd.func5, Tryd.ntmps5
  go_wp2_with fail
  refine (CR _).mono ?_
  rintro r w1 ⟨rfl, b1'⟩
  have b1 := b1'.alloc b1'.size (.cells R.cells 31)
  clear CR b1'
  go_wp2_with fail
  refine (CH _).mono ?_
  rintro r w2 ⟨rfl, b2'⟩
  have b2 := b1.trans (b2'.mono b1.size)
  clear CH b2' b1
  go_wp2_with fail
  refine (CL _ (ht.below b2)).mono ?_
  rintro r w3 ⟨rfl, b3'⟩
  have b3 := b2.trans (b3'.mono b2.size)
  clear b3' b2
  go_wp2_with fail
  refine (CL _ (ht.below b3)).mono ?_
  rintro r w4 ⟨rfl, b4'⟩
  have b4 := b3.trans (b4'.mono b3.size)
  clear b4' b3 CL
  go_wp2_with fail
  go_ret
  exact ⟨rfl, b4⟩

theorem hopl_size (c : ByteArray) : (⟨(hopl c).toArray⟩ : ByteArray).size ≤ 281474976710656 := by
  have : (hopl c).length ≤ an c := by unfold hopl; rw [putw_length, putw_length, List.length_take]; omega
  have h2 : an c ≤ 65535 := by unfold an; have := wd_bd c 2; omega
  show (hopl c).toArray.size ≤ _
  rw [List.size_toArray]; omega
/-- what holds at the loop's head -/
def Inv (w : World) (b : Nat) (l0 : Int) (t f n : Value) (W : World) : Prop := ∃ (c : ByteArray) (k : Nat), ire c = 0 ∧ c.size ≤ 281474976710656 ∧ t = .string (hops c) ∧ f = .int .i64 (hope c) ∧ n = .int .i64 k ∧ (k : Int) + bt c 8 = l0 ∧
  Blk W b (rdp c).cells 31 ∧ Below w.heap.size w W
set_option maxHeartbeats 4000000 in
theorem good (s : ByteArray) (w : World) (hs : s.size ≤ 281474976710656) (ht : Tab w) (h : ire s = 0) :
    Calls Tryd.prog 5 #[.string s] w fun e w' => e = .returned (.bool true) ∧ Below w.heap.size w w' := by
  have CR := fun u => read_any s u hs
  have CH := fun u => hop_any s u hs
  have CL := fun u h => lives u h
  rw [h, show ird s = rdp s by unfold ird; rw [if_pos h]] at CR
  have I0 : ∀ W b, Blk W b (rdp s).cells 31 → Below w.heap.size w W → Inv w b (bt s 8) (.string (hops s)) (.int .i64 (hope s)) (.int .i64 0) W := fun W b B bel => ⟨s, 0, h, hs, rfl, rfl, rfl, by omega, B, bel⟩
  have l0 := bt_bd s 8
  generalize rdp s = P at CR I0
  generalize hops s = T at CH I0
  generalize hope s = f at CH I0
  generalize bt s 8 = l at I0 l0
  clear h
  go_enter Tryd.func5, Tryd.ntmps5
  go_wp2_with fail
  refine (CR _).mono ?_
  rintro r w1 ⟨rfl, b1'⟩
  have B1 := Blk.new w1 P.cells 31
  have hB := b1'.size
  have b1 := b1'.alloc b1'.size (.cells P.cells 31)
  clear CR b1'
  go_wp2_with fail
  refine (CH _).mono ?_
  rintro r w2 ⟨rfl, b2'⟩
  have B2 := B1.below b2' B1.lt
  have b2 := b1.trans (b2'.mono b1.size)
  clear CH b2' b1 B1
  go_wp2_with fail
  refine (CL _ (ht.below b2)).mono ?_
  rintro r w3 ⟨rfl, b3'⟩
  have B3 := B2.below b3' B2.lt
  have b3 := b2.trans (b3'.mono b2.size)
  clear b3' b2 B2 CL
  have I3 := I0 w3 w1.heap.size B3 b3
  clear I0 B3 b3
  go_wp2_with fail
  generalize w1.heap.size = bb at *
  go_loopw [5, 6, 7] (fun t f n wr => Inv w bb l t f n wr) (fun _ _ n _ => 300 - (intOf n).toNat)
  case atStart => exact I3
  case round =>
    clear I3
    obtain ⟨c, k, hc, hcs, rfl, rfl, rfl, hl, B, bel⟩ := hrel
    have c0 := bt_bd c 8
    have li : (rdp c).li = bt c 8 := rfl
    by_cases h8 : 2 ≤ bt c 8
    · have e1 : hope c = 0 := by unfold hope; rw [if_pos hc, if_neg (by omega)]
      have e2 : hops c = ⟨(hopl c).toArray⟩ := by unfold hops; rw [e1]; rfl
      obtain ⟨r1, r2⟩ := hop_read hc h8
      rw [e1, e2]
      have z' := hopl_size c
      have l8 : bt ⟨(hopl c).toArray⟩ 8 = bt c 8 - 1 := by
        have := congrArg Pk.li r2
        exact this
      generalize (⟨(hopl c).toArray⟩ : ByteArray) = d at r1 r2 z' l8 ⊢
      have CR := fun u => read_any d u z'
      rw [r1, show ird d = rdp d by unfold ird; rw [if_pos r1]] at CR
      have CH := fun u => hop_any d u z'
      have I' : ∀ W, Blk W bb (rdp d).cells 31 → Below w.heap.size w W → Inv w bb l (.string (hops d)) (.int .i64 (hope d)) (.int .i64 ((k + 1 : Nat) : Int)) W := fun W B bel => ⟨d, k + 1, r1, z', rfl, rfl, rfl, by omega, B, bel⟩
      rw [r2] at CR I'
      have hk : (k : Int) < 300 := by omega
      have li0 : 0 ≤ (rdp c).li := by omega
      have li1 : (rdp c).li ≤ 255 := by omega
      generalize hops d = T' at CH I'
      generalize hope d = f' at CH I'
      generalize rdp c = P' at CR B I' li0 li1
      clear r1 r2 z' l8 e1 e2 hc hcs hl li c0 h8
      obtain ⟨tos, id, wh, mo, st, lf, pr, fr, tt, o, dd⟩ := P'
      simp only at CR B I' li0 li1
      go_wp2_with fail
      refine (CR _).mono ?_
      rintro r x1 ⟨rfl, b1'⟩
      have B1 := B.below b1' B.lt
      have b1 := bel.trans (b1'.mono bel.size)
      have lt1 := B1.lt
      have c1 := B1.cell
      have f1 := B1.free
      have B2 := (B1.setCell 5 (.int .i64 (lf - 1))).alloc (.cells (Pk.cells ⟨tos, id, wh, mo, st, lf - 1, pr, fr, tt, o, dd⟩) 31)
      have b2' := b1.setCell (p := ⟨bb, 5, none⟩) hB (.int .i64 (lf - 1))
      have b2 := b2'.alloc b2'.size (.cells (Pk.cells ⟨tos, id, wh, mo, st, lf - 1, pr, fr, tt, o, dd⟩) 31)
      clear CR b1' B bel
      go_wp2_with fail
      refine (CH _).mono ?_
      rintro r x2 ⟨rfl, b3'⟩
      have B3 := B2.below b3' B2.lt
      have b3 := b2.trans (b3'.mono b2.size)
      clear CH b3' B2 b2 b2' B1 b1 c1 f1
      go_wp2_with fail
      go_roundw
      case rel => exact I' _ B3 b3
      case measure => simp [intOf]; omega
    · have e1 : hope c = 7 := by unfold hope; rw [if_pos hc, if_pos (by omega)]
      have hk : (k : Int) < 300 := by omega
      rw [e1]
      have li1 : (rdp c).li ≤ 1 := by omega
      generalize hops c = T'
      generalize rdp c = P' at B li1
      have c1 := B.cell
      clear e1 hc hcs hl li c0 h8 B
      go_wp2_with fail
      go_ret
      exact ⟨rfl, bel⟩
end Go.Proofs.YtedbjhpajpakpaaDoor.ipho
