/- The walk through custkeep.IpTold. -/
import Derived.Test.YtedbjhpajpakpaaDoorIpToldMath
import Derived.Test.YtedbjhpajpakpaaDoorIpHop
import Derived.Test.YtedbjhpajpakpaaDoorIpLives
import Derived.Deep.DeepCutAuto
namespace Go.Proofs.YtedbjhpajpakpaaDoor.iptl
open Go.ChangeShapes Go.WideShapes Go.ChangeAt Go.RowKit Go.BigFrame
open Go.Proofs.YtedbjhpajpakpaaDoor Go.Proofs.YtedbjhpajpakpaaDoor.EM Go.Proofs.YtedbjhpajpakpaaDoor.ethb Go.Proofs.YtedbjhpajpakpaaDoor.SM Go.Proofs.YtedbjhpajpakpaaDoor.ipb Go.Proofs.YtedbjhpajpakpaaDoor.buf Go.Proofs.YtedbjhpajpakpaaDoor.boxes Go.Proofs.YtedbjhpajpakpaaDoor.ipi Go.Proofs.YtedbjhpajpakpaaDoor.ipw Go.Proofs.YtedbjhpajpakpaaDoor.ipr Go.Proofs.YtedbjhpajpakpaaDoor.iph Go.Proofs.YtedbjhpajpakpaaDoor.ips Go.Proofs.YtedbjhpajpakpaaDoor.ipl Go.Proofs.YtedbjhpajpakpaaDoor.onem Go.Proofs.YtedbjhpajpakpaaDoor.iptm
open Go.Proofs.YtedbjhpajpakpaaDoor.refb (Row Row.put)

theorem write_any (p : Pk) (w : World) (h : 20 + p.o.size + p.d.size ≤ 9223372036854775807) (ha : p.Adr) :
    Calls Tryd.prog 13 #[.agg p.cells] w fun e w' => e = .returned (.tuple #[.string p.out, .int .i64 p.err]) ∧ Below w.heap.size w w' := by
  by_cases he : p.err = 0
  · rw [show p.out = ⟨p.txt.toArray⟩ by unfold Pk.out; rw [if_pos he], he]
    exact write_ok p w (Pk.ok he) ha
  · rw [show p.out = ⟨#[]⟩ by unfold Pk.out; rw [if_neg he]]
    exact write_bad p w h he
/-- not written, or no such bit -/
theorem out (p : Pk) (at_ : Int) (w : World) (h : 20 + p.o.size + p.d.size ≤ 9223372036854775807) (ha : p.Adr) (ht : Tab w) (a0 : -9223372036854775808 ≤ at_) (a1 : at_ ≤ 9223372036854775807)
    (hx : ¬ p.err = 0 ∨ at_ < 4 ∨ ((p.out.size : Int) ≤ at_ / 8 ∧ 4 ≤ at_)) :
    Calls Tryd.prog 6 #[.agg p.cells, .int .i64 at_] w fun e w' => e = .returned (.bool true) ∧ Below w.heap.size w w' := by
  have CW := fun u => write_any p u h ha
  generalize p.out = S at CW hx
  generalize p.err = er at CW hx
  have F0 : Blk (w.alloc (.cells p.cells 31)) w.heap.size p.cells 31 := Blk.new _ _ _
  have b0 := (Below.refl w.heap.size w).alloc (Nat.le_refl _) (.cells p.cells 31)
  go_enter Tryd.func6, Tryd.ntmps6
  go_wp2_with (refine blk_load _ rfl 31 _ rfl w.heap.size rfl _ _ F0 _ Tryd.underlying31 rfl 11 pk_info rfl ?_)
  refine (CW _).mono ?_
  rintro r w1 ⟨rfl, hb1⟩
  have b1 := b0.trans (hb1.mono b0.size)
  clear CW F0 b0 hb1
  go_wp2_with fail
  refine (lives _ (ht.below b1)).mono ?_
  rintro r w2 ⟨rfl, hb2⟩
  have b2 := b1.trans (hb2.mono b1.size)
  clear b1 hb2
  by_cases e0 : er = 0
  case neg =>
    have e0' : (er != 0) = true := by simpa using e0
    clear e0 hx
    go_wp2_with fail
    refine (lives _ (ht.below b2)).mono ?_
    rintro r w3 ⟨rfl, hb3⟩
    have b3 := b2.trans (hb3.mono b2.size)
    go_wp2_with fail
    go_ret
    exact ⟨rfl, b3⟩
  subst e0
  by_cases l4 : at_ < 4
  · clear hx
    go_wp2_with fail
    refine (lives _ (ht.below b2)).mono ?_
    rintro r w3 ⟨rfl, hb3⟩
    have b3 := b2.trans (hb3.mono b2.size)
    go_wp2_with fail
    go_ret
    exact ⟨rfl, b3⟩
  have hy : (S.size : Int) ≤ at_ / 8 := by omega
  have l4' : decide (at_ < 4) = false := by simp; omega
  have a8 : at_ / 8 ≤ 1152921504606846976 := by omega
  have a80 : 0 ≤ at_ := by omega
  clear hx l4 a0
  go_wp2_with fail
  refine (lives _ (ht.below b2)).mono ?_
  rintro r w3 ⟨rfl, hb3⟩
  have b3 := b2.trans (hb3.mono b2.size)
  go_wp2_with fail
  go_ret
  exact ⟨rfl, b3⟩
theorem row_below {w w' : World} {b : Nat} {l : List UInt8} (h : Row w b l) (hb : Below w.heap.size w w') (lt : b < w.heap.size) : Row w' b l := fun j hj =>
  ⟨(hb.cell (p := ⟨b, j, none⟩) lt).trans (h j hj).1, (hb.frozen (p := ⟨b, j, none⟩) lt).trans (h j hj).2⟩
theorem row_alloc {w : World} {b : Nat} {l : List UInt8} (h : Row w b l) (lt : b < w.heap.size) (o : Obj) : Row (w.alloc o) b l := row_below h ((Below.refl _ _).alloc (Nat.le_refl _) _) lt
theorem row_tail {w : World} {b m cap : Nat} {l : List UInt8} (h : Row w b l) (hm : m ≤ l.length) : (convert 38 9 (.slice (some ⟨b, m, none⟩) (l.length - m) cap)).run Tryd.prog w = .ok (.string ⟨(l.drop m).toArray⟩) w := by
  have := run_convert_bytes_back (P := Tryd.prog) w 38 9 5 ⟨b, m, none⟩ cap (l.drop m) Tryd.underlying38 Tryd.underlying5 Tryd.underlying9
    (fun j hj => by
      have e : (⟨b, m, none⟩ : Addr).add j = ⟨b, m + j, none⟩ := by unfold Addr.add; split <;> simp_all
      have hj' : m + j < l.length := by rw [List.length_drop] at hj; omega
      rw [e, (h (m + j) hj').1]
      simp [List.getElem_drop])
  rw [List.length_drop] at this; exact this
set_option maxRecDepth 20000 in
set_option maxHeartbeats 4000000 in
theorem inside (p : Pk) (i r : Nat) (w : World) (hp : p.Ok) (ha : p.Adr) (ht : Tab w) (hr : r < 8) (hi : i < p.txt.length) (h0 : i = 0 → 4 ≤ r) :
    Calls Tryd.prog 6 #[.agg p.cells, .int .i64 ((8 * i + r : Nat) : Int)] w fun e w' => e = .returned (.bool true) ∧ Below w.heap.size w w' := by
  have CW := fun u => write_ok p u hp ha
  have hall := hp.all
  have zt : p.txt.length = 20 + p.o.size + p.d.size := ipm.txt_len p
  have o1 := hp.o1
  obtain ⟨x, hx⟩ : ∃ x : Int, x = ((8 * i + r : Nat) : Int) := ⟨_, rfl⟩
  rw [← hx]
  have hx4 : ¬ x < 4 := by
    by_cases e : i = 0
    · have := h0 e; omega
    · omega
  have hx1 : 0 ≤ x := by omega
  have hx2 : x ≤ 1125899906842624 := by omega
  have hx3 : x / 8 < (p.txt.length : Int) := by omega
  have d8 : Hid (x / 8 = (i : Int)) := by show _ = _; omega
  have m8 : Hid (x % 8 = (r : Int)) := by show _ = _; omega
  have hcv : ∀ u : World, (convert 9 38 (.string ⟨p.txt.toArray⟩)).run Tryd.prog u = .ok (.slice (some ⟨u.heap.size, 0, none⟩) (⟨p.txt.toArray⟩ : ByteArray).size (grownCap u (⟨p.txt.toArray⟩ : ByteArray).size 0 5))
      (u.drew.alloc (.cells (bytesRow ⟨p.txt.toArray⟩ (grownCap u (⟨p.txt.toArray⟩ : ByteArray).size 0 5)) 5 ((bytesRow ⟨p.txt.toArray⟩ (grownCap u (⟨p.txt.toArray⟩ : ByteArray).size 0 5)).size, (bytesRow ⟨p.txt.toArray⟩ (grownCap u (⟨p.txt.toArray⟩ : ByteArray).size 0 5)).size + 1))) :=
    fun u => run_bytes_of_string u _ _ _ _ Tryd.underlying9 Tryd.underlying38 Tryd.underlying5
  have zS : (⟨p.txt.toArray⟩ : ByteArray).size = p.txt.length := by show p.txt.toArray.size = _; rw [List.size_toArray]
  have lS : (⟨p.txt.toArray⟩ : ByteArray).data.toList = p.txt := by simp
  have HD : Hid (20 + p.o.size ≤ i → ire ⟨(flip p i (turn p.txt[i] r)).toArray⟩ = 0 ∧ rdp ⟨(flip p i (turn p.txt[i] r)).toArray⟩ = { p with d := ⟨((flip p i (turn p.txt[i] r)).drop (20 + p.o.size)).toArray⟩ }) := fun h => data_turned p hp ha i _ h
  have HH : Hid (i < 20 + p.o.size → ¬ ire ⟨(flip p i (turn p.txt[i] r)).toArray⟩ = 0) := fun h => head_turned p hp i r hr h h0 hi
  have HF : Hid (flip p i (turn p.txt[i] r) = p.txt.set i (turn p.txt[i] r)) := (rfl : _ = _)
  generalize flip p i (turn p.txt[i] r) = L' at HD HH HF
  obtain ⟨L, hL⟩ : ∃ L, L = p.txt := ⟨_, rfl⟩
  obtain ⟨S, hS⟩ : ∃ S : ByteArray, S = ⟨p.txt.toArray⟩ := ⟨_, rfl⟩
  rw [← hS] at CW hcv zS lS
  have hil : i < L.length := by rw [hL]; exact hi
  have HFL : Hid (L' = L.set i (turn L[i] r)) := by
    show _ = _
    have := HF.out
    subst hL
    exact this
  rw [← hL] at zS lS hx3 zt
  have X : Hid (x = ((8 * i + r : Nat) : Int)) := hx
  clear hx hS hL HF hi
  have F0 : Blk (w.alloc (.cells p.cells 31)) w.heap.size p.cells 31 := Blk.new _ _ _
  have b0 := (Below.refl w.heap.size w).alloc (Nat.le_refl _) (.cells p.cells 31)
  obtain ⟨n, hn⟩ : ∃ n, n = L.length := ⟨_, rfl⟩
  rw [← hn] at zS hx3 zt
  have HN : Hid (n = L.length ∧ n = 20 + p.o.size + p.d.size) := ⟨hn, zt⟩
  have in_ : i < n := by omega
  have n1 : n ≤ 65535 := by omega
  clear zt hn
  have zS' : (S.size : Int) = n := by omega
  have x3' : decide ((n : Int) ≤ x / 8) = false := by simp; omega
  go_enter Tryd.func6, Tryd.ntmps6
  go_wp2_with (refine blk_load _ rfl 31 _ rfl w.heap.size rfl _ _ F0 _ Tryd.underlying31 rfl 11 pk_info rfl ?_)
  refine (CW _).mono ?_
  rintro rr w1 ⟨rfl, hb1⟩
  have F1 := F0.below hb1 F0.lt
  have b1 := b0.trans (hb1.mono b0.size)
  clear CW F0 b0 hb1
  go_wp2_with fail
  refine (lives _ (ht.below b1)).mono ?_
  rintro rr w2 ⟨rfl, hb2⟩
  have F2 := F1.below hb2 F1.lt
  have b2 := b1.trans (hb2.mono b1.size)
  clear b1 hb2 F1
  go_upto_region 4 with fail
  go_cut [7] (fun v wx => ∃ b cap, v = .slice (some ⟨b, 0, none⟩) n cap ∧ n ≤ cap ∧ w.heap.size < b ∧ b < wx.heap.size ∧ Row wx b L ∧ Below w.heap.size w wx ∧ Blk wx w.heap.size p.cells 31)
  case first =>
    go_wp2_with fail
    go_meet
    have rm := row_drew (row_made w2 S (grownCap w2 n 0 5) 5)
    rw [← lS]
    exact ⟨_, _, rfl, grownCap_ge _ _ _ _, F2.lt, by simp, rm, Below.drew (b2.alloc b2.size _), Blk.drew (F2.alloc _)⟩
  case rest =>
    obtain ⟨b, cap, rfl, hcap, hB, hb, row, bel, F3⟩ := hcut
    clear hcv b2 F2 lS zS zS' x3'
    have dd8 := d8.out
    have mm8 := m8.out
    obtain ⟨c0, f0⟩ := row i hil
    have hii : (i : Int) < n := by omega
    go_wp2_with fail
    go_region
    rw [bits_turn _ _ hr]
    have hput : Row (wc.setCell ⟨b, i, none⟩ (.int .u8 ((turn L[i] r).toNat : Int))).drew b L' := by
      rw [HFL.out]; exact row_drew (row.put i hil _)
    have F4 : Blk (wc.setCell ⟨b, i, none⟩ (.int .u8 ((turn L[i] r).toNat : Int))).drew w.heap.size p.cells 31 := Blk.drew ((but_setCell wc b i _).blk F3 (by omega))
    have b4 : Below w.heap.size w (wc.setCell ⟨b, i, none⟩ (.int .u8 ((turn L[i] r).toNat : Int))).drew := Below.drew (bel.setCell (p := ⟨b, i, none⟩) (by show _ ≤ b; omega) _)
    generalize (wc.setCell ⟨b, i, none⟩ (.int .u8 ((turn L[i] r).toNat : Int))).drew = W at hput F4 b4 ⊢
    have nl : L'.length = n := by rw [HFL.out, List.length_set]; exact HN.out.1.symm
    have hback := row_back (cap := cap) hput
    rw [nl] at hback
    have hbW : b < W.heap.size := by
      by_cases hh : b < W.heap.size
      · exact hh
      · have := (hput 0 (by omega)).1
        exact absurd (World.block_lt_of_cell? _ _ this) hh
    have CR := fun u => read_any ⟨L'.toArray⟩ u (by show L'.toArray.size ≤ _; rw [List.size_toArray, nl]; omega)
    have bd := ipm.ire_bd ⟨L'.toArray⟩
    by_cases hc : 20 + p.o.size ≤ i
    · obtain ⟨z1, z2⟩ := HD.out hc
      rw [z1, show ird ⟨L'.toArray⟩ = rdp ⟨L'.toArray⟩ by unfold ird; rw [if_pos z1], z2] at CR
      have tl : ∀ (u : World) (c2 : Nat), Row u b L' → (convert 38 9 (.slice (some ⟨b, 20 + p.o.size, none⟩) (n - (20 + p.o.size)) c2)).run Tryd.prog u = .ok (.string ⟨(L'.drop (20 + p.o.size)).toArray⟩) u := fun u c2 hu => by
        have := row_tail (cap := c2) hu (m := 20 + p.o.size) (by omega)
        rw [nl] at this; exact this
      generalize (⟨(L'.drop (20 + p.o.size)).toArray⟩ : ByteArray) = D at CR tl
      clear HD HH z1 z2 bd
      generalize (⟨L'.toArray⟩ : ByteArray) = T at CR hback
      go_wp2_with fail
      refine (CR _).mono ?_
      rintro rr w5 ⟨rfl, hb5⟩
      have F5 := F4.below hb5 F4.lt
      have b5 := b4.trans (hb5.mono b4.size)
      have R5 := row_below hput hb5 hbW
      have lb5 : b < w5.heap.size := Nat.lt_of_lt_of_le hbW hb5.size
      have R6 := row_alloc R5 lb5 (.cells (Pk.cells { p with d := D }) 31)
      have tl6 := fun c2 => tl _ c2 R6
      have c5 := F5.cell
      have f5 := F5.free
      have l5 := F5.lt
      clear CR hb5 hback hput F4 b4 R5 R6 tl
      have xi : 20 + (p.o.size : Int) ≤ i := by omega
      have ncp : ¬ cap = 20 + p.o.size := by omega
      have e20 : (20 + (p.o.size : Int)).toNat = 20 + p.o.size := by omega
      have b7' := b5.setCell (p := ⟨w.heap.size, 10, none⟩) (Nat.le_refl _) (.string D)
      have b7 := b7'.alloc b7'.size (.cells (Pk.cells { p with d := D }) 31)
      go_wp2_with fail
      go_ret
      exact ⟨rfl, b7⟩
    · have z1 := HH.out (by omega)
      obtain ⟨er, her⟩ : ∃ er, er = ire ⟨L'.toArray⟩ := ⟨_, rfl⟩
      rw [← her] at CR bd z1
      clear her HH HD
      generalize ird ⟨L'.toArray⟩ = R at CR
      generalize (⟨L'.toArray⟩ : ByteArray) = T at CR hback
      have bd' : er = 3 ∨ er = 4 ∨ er = 5 := by omega
      have xi : ¬ 20 + (p.o.size : Int) ≤ i := by omega
      clear bd z1
      go_wp2_with fail
      refine (CR _).mono ?_
      rintro rr w5 ⟨rfl, hb5⟩
      have F5 := F4.below hb5 F4.lt
      have b5 := b4.trans (hb5.mono b4.size)
      have c5 := F5.cell
      have l5 := F5.lt
      have b7 := b5.alloc b5.size (.cells R.cells 31)
      clear CR hb5 hback hput F4 b4
      rcases bd' with rfl | rfl | rfl
      · go_wp2_with fail
        go_ret
        exact ⟨rfl, b7⟩
      · go_wp2_with fail
        go_ret
        exact ⟨rfl, b7⟩
      · go_wp2_with fail
        go_ret
        exact ⟨rfl, b7⟩
end Go.Proofs.YtedbjhpajpakpaaDoor.iptl
