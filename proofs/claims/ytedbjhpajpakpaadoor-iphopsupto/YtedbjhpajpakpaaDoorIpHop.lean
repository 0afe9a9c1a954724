/- What ip.Hop answers, and that it changes nothing that was there. -/
import Derived.Test.YtedbjhpajpakpaaDoorIpRead2
import Derived.Test.YtedbjhpajpakpaaDoorRefBytes
import Derived.Laws.IdiomStrings
import Derived.Deep.DeepCutAuto
namespace Go.Proofs.YtedbjhpajpakpaaDoor.iph
open Go.ChangeShapes Go.WideShapes Go.ChangeAt Go.RowKit Go.BigFrame
open Go.Proofs.YtedbjhpajpakpaaDoor Go.Proofs.YtedbjhpajpakpaaDoor.EM Go.Proofs.YtedbjhpajpakpaaDoor.ethb Go.Proofs.YtedbjhpajpakpaaDoor.SM Go.Proofs.YtedbjhpajpakpaaDoor.ipb Go.Proofs.YtedbjhpajpakpaaDoor.buf Go.Proofs.YtedbjhpajpakpaaDoor.boxes Go.Proofs.YtedbjhpajpakpaaDoor.ipi Go.Proofs.YtedbjhpajpakpaaDoor.ipw Go.Proofs.YtedbjhpajpakpaaDoor.ipr
open Go.Proofs.YtedbjhpajpakpaaDoor.sumw (Qd)
open Go.Proofs.YtedbjhpajpakpaaDoor.refb (Row Row.put)
open Go.Proofs.YtedbjhpajpakpaaDoor.ipm (bytes_ext ext_list Red red)

/-- the row that a string's conversion makes -/
theorem row_made (w : World) (s : ByteArray) (cap : Nat) (e : TypeId) :
    Row (w.alloc (.cells (bytesRow s cap) e ((bytesRow s cap).size, (bytesRow s cap).size + 1))) w.heap.size s.data.toList := by
  intro j hj
  have hj' : j < s.data.size := by simpa using hj
  have hj2 : j < s.size := hj'
  have hz : j < (bytesRow s cap).size := by simp [bytesRow]; omega
  refine ⟨?_, ?_⟩
  · rw [World.cell?_alloc_mark]
    simp [bytesRow, Array.getElem?_append, hj2]
  · rw [World.frozen?_alloc_mark]
    simp; omega
theorem row_drew {w : World} {b : Nat} {l : List UInt8} (h : Row w b l) : Row w.drew b l := h
theorem row_quiet {w w' : World} {b : Nat} {l : List UInt8} (h : Row w b l) (q : Qd w w') : Row w' b l := by
  obtain ⟨m, rfl⟩ := q; exact h
theorem row_back {w : World} {b cap : Nat} {l : List UInt8} (h : Row w b l) : (convert 38 9 (.slice (some ⟨b, 0, none⟩) l.length cap)).run Tryd.prog w = .ok (.string ⟨l.toArray⟩) w :=
  run_convert_bytes_back (P := Tryd.prog) w 38 9 5 ⟨b, 0, none⟩ cap l Tryd.underlying38 Tryd.underlying5 Tryd.underlying9
    (fun j hj => by
      have e : (⟨b, 0, none⟩ : Addr).add j = ⟨b, j, none⟩ := by unfold Addr.add; split <;> simp_all
      rw [e]; exact (h j hj).1)

theorem putWord_row (w : World) (b cap : Nat) (l : List UInt8) (k : Nat) (n : Int) (row : Row w b l) (hk : k + 1 < l.length) (hl : l.length ≤ 70368744177664) (h0 : 0 ≤ n) (h1 : n ≤ 65535) :
    Calls Tryd.prog 19 #[.slice (some ⟨b, 0, none⟩) l.length cap, .int .i64 k, .int .u16 n] w fun e w' => e = .returned (.tuple #[]) ∧ Row w' b (putw l k n) ∧ But b w w' := by
  obtain ⟨c0, f0⟩ := row k (by omega)
  have row1 := row.put k (by omega) (hi8 n)
  obtain ⟨c1', f1'⟩ := row1 (k + 1) (by simp; omega)
  have row2 := row1.put (k + 1) (by simp; omega) (lo8 n)
  have bt2 : But b w ((w.setCell ⟨b, k, none⟩ (.int .u8 ((hi8 n).toNat : Int))).setCell ⟨b, k + 1, none⟩ (.int .u8 ((lo8 n).toNat : Int))) := by
    have x := but_setCell w b k (.int .u8 ((hi8 n).toNat : Int))
    have y := but_setCell (w.setCell ⟨b, k, none⟩ (.int .u8 ((hi8 n).toNat : Int))) b (k + 1) (.int .u8 ((lo8 n).toNat : Int))
    exact ⟨y.os.trans x.os, y.tape.trans x.tape, y.output.trans x.output, y.size.trans x.size, fun j hj => (y.block j hj).trans (x.block j hj)⟩
  rw [hi8_at n h0 h1] at row1 c1' f1' row2 bt2
  rw [lo8_at] at row2 bt2
  have R2 : Hid (Row _ b (putw l k n)) := row2
  have B2 : Hid (But b w _) := bt2
  obtain ⟨y1, c1⟩ : ∃ y, (w.setCell ⟨b, k, none⟩ (.int .u8 (n / 256))).cell? ⟨b, k + 1, none⟩ = some y := ⟨_, c1'⟩
  obtain ⟨y0, c0'⟩ : ∃ y, w.cell? ⟨b, k, none⟩ = some y := ⟨_, c0⟩
  clear c0 c1'
  have hk1 : (k : Int) + 1 < l.length := by omega
  have hk0 : (k : Int) < l.length := by omega
  have hh : n / 256 < 256 := by omega
  have k1 : ((k : Int) + 1).toNat = k + 1 := by omega
  clear row row1 row2 bt2
  go_enter Tryd.func19, Tryd.ntmps19
  go_wp2_with fail
  exact bodyPost_end (results_none rfl _ _ _) rfl ⟨rfl, R2.out, B2.out⟩

/-- the error that a text hops with, and the bytes behind it -/
def hope (s : ByteArray) : Int := if ire s = 0 then (if (rdp s).li < 2 then 7 else 0) else ire s
def fixed (s : ByteArray) : Int := 65535 - ea (ea (65535 - wd s 10) (65535 - wd s 8)) (wd s 8 - 256)
def hopl (s : ByteArray) : List UInt8 := putw (putw (s.data.toList.take (an s)) 8 (wd s 8 - 256)) 10 (fixed s)
def hops (s : ByteArray) : ByteArray := if hope s = 0 then ⟨(hopl s).toArray⟩ else ⟨#[]⟩
theorem fixed_bd (s : ByteArray) (h : 2 ≤ bt s 8) : 0 ≤ fixed s ∧ fixed s ≤ 65535 := by
  have a := wd_bd s 10
  have b := wd_bd s 8
  have c : 256 ≤ wd s 8 := by unfold wd; have := bt_bd s 9; simp only [Nat.reduceAdd]; omega
  have e1 := ea_bd (65535 - wd s 10) (65535 - wd s 8) (by omega) (by omega) (by omega) (by omega)
  have e2 := ea_bd (ea (65535 - wd s 10) (65535 - wd s 8)) (wd s 8 - 256) e1.1 e1.2 (by omega) (by omega)
  unfold fixed; omega
theorem rdp_li (s : ByteArray) : (rdp s).li = bt s 8 := rfl
theorem rdp_long {s : ByteArray} (h : ire s = 0) : 20 + (rdp s).o.size + (rdp s).d.size = an s := by
  have R := red h
  have := R.h0; have := R.ha; have := R.a
  simp only [rdp, ByteArray.size_extract]; omega
set_option maxRecDepth 20000 in
set_option maxHeartbeats 2000000 in
theorem hop_any (s : ByteArray) (w : World) (hs : s.size ≤ 281474976710656) :
    Calls Tryd.prog 7 #[.string s] w fun e w' => e = .returned (.tuple #[.string (hops s), .int .i64 (hope s)]) ∧ Below w.heap.size w w' := by
  have CR := fun u => read_any s u hs
  by_cases h : ire s = 0
  case neg =>
    have e1 : hope s = ire s := by unfold hope; rw [if_neg h]
    have e2 : hops s = ⟨#[]⟩ := by unfold hops; rw [e1, if_neg h]
    rw [e1, e2]
    generalize ird s = R at CR
    generalize ire s = g at CR h ⊢
    have h' : (g != 0) = true := by simpa using h
    clear h e1 e2
    go_enter Tryd.func7, Tryd.ntmps7
    go_wp2_with fail
    refine (CR _).mono ?_
    rintro r w1 ⟨rfl, hb1⟩
    go_wp2_with fail
    go_ret2
    exact ⟨rfl, hb1.alloc hb1.size _⟩
  rw [h, show ird s = rdp s by unfold ird; rw [if_pos h]] at CR
  have R := red h
  have eL := rdp_long h
  have li := rdp_li s
  have hall := R.a
  have h20 := R.z
  have h0 := R.h0
  have hha := R.ha
  by_cases hl : (rdp s).li < 2
  · have e1 : hope s = 7 := by unfold hope; rw [if_pos h, if_pos hl]
    have e2 : hops s = ⟨#[]⟩ := by unfold hops; rw [e1]; rfl
    rw [e1, e2]
    generalize rdp s = P at CR hl
    clear e1 e2 eL li R
    go_enter Tryd.func7, Tryd.ntmps7
    go_wp2_with fail
    refine (CR _).mono ?_
    rintro r w1 ⟨rfl, hb1⟩
    go_wp2_with fail
    go_ret2
    exact ⟨rfl, hb1.alloc hb1.size _⟩
  have e1 : hope s = 0 := by unfold hope; rw [if_pos h, if_neg hl]
  have e2 : hops s = ⟨(hopl s).toArray⟩ := by unfold hops; rw [e1]; rfl
  rw [e1, e2]
  have fb := fixed_bd s (by omega)
  have w8 := wd_bd s 8
  have w10 := wd_bd s 10
  have g8 : 256 ≤ wd s 8 := by unfold wd; have := bt_bd s 9; simp only [Nat.reduceAdd]; omega
  have CL := fun u => long_any (rdp s) u (by omega)
  rw [eL] at CL
  have HX : Hid (hopl s = putw (putw (s.data.toList.take (an s)) 8 (wd s 8 - 256)) 10 (fixed s)) := (rfl : _ = _)
  have HF : Hid (fixed s = 65535 - ea (ea (65535 - wd s 10) (65535 - wd s 8)) (wd s 8 - 256)) := (rfl : _ = _)
  generalize hopl s = X at HX ⊢
  generalize fixed s = F at HX HF fb
  have hcv : ∀ u : World, (convert 9 38 (.string (s.extract 0 (an s)))).run Tryd.prog u = .ok (.slice (some ⟨u.heap.size, 0, none⟩) (s.extract 0 (an s)).size (grownCap u (s.extract 0 (an s)).size 0 5))
      (u.drew.alloc (.cells (bytesRow (s.extract 0 (an s)) (grownCap u (s.extract 0 (an s)).size 0 5)) 5 ((bytesRow (s.extract 0 (an s)) (grownCap u (s.extract 0 (an s)).size 0 5)).size, (bytesRow (s.extract 0 (an s)) (grownCap u (s.extract 0 (an s)).size 0 5)).size + 1))) :=
    fun u => run_bytes_of_string u _ _ _ _ Tryd.underlying9 Tryd.underlying38 Tryd.underlying5
  have zs : (s.extract 0 (an s)).size = an s := by rw [ByteArray.size_extract]; omega
  have ls : (s.extract 0 (an s)).data.toList = s.data.toList.take (an s) := by rw [ext_list, List.drop_zero]
  have sl : ∀ u, (Instr.slice 9 (.string s) none (some (.int .i64 (an s))) none).run Tryd.prog u = .ok (.string (s.extract 0 (an s))) u := fun u => by
    have := run_slice_string_h u 9 s Tryd.underlying9 .i64 (an s) (by omega) (by omega)
    simpa using this
  have ll : (s.data.toList.take (an s)).length = an s := by rw [List.length_take]; simp; omega
  generalize s.data.toList.take (an s) = L at HX ls ll
  generalize rdp s = P at CR hl CL eL li
  have hl' : 2 ≤ P.li := by omega
  clear e1 e2 li R hl eL
  have ia : (an s : Int) ≤ s.size := by omega
  have l20 : 20 ≤ an s := by omega
  have l65 : an s ≤ 65535 := by unfold an; have := wd_bd s 2; omega
  generalize s.extract 0 (an s) = T at hcv zs ls sl
  generalize an s = al at *
  go_enter Tryd.func7, Tryd.ntmps7
  go_wp2_with fail
  refine (CR _).mono ?_
  rintro r w1 ⟨rfl, hb1⟩
  have B1 := Blk.new w1 P.cells 31
  have bel1 := hb1.alloc hb1.size (.cells P.cells 31)
  clear CR hb1
  go_upto_region 6 with fail
  go_cut [6] (fun v wx => ∃ b cap, v = .slice (some ⟨b, 0, none⟩) al cap ∧ w.heap.size ≤ b ∧ b < wx.heap.size ∧ Row wx b L ∧ Below w.heap.size w wx)
  case first =>
    go_wp2_with (refine blk_load _ rfl 31 _ rfl w1.heap.size rfl _ _ B1 _ Tryd.underlying31 rfl 11 pk_info rfl ?_)
    refine (CL _).mono ?_
    rintro r w2 ⟨rfl, rfl⟩
    go_wp2_with fail
    go_meet
    have bel2 := bel1.alloc bel1.size (.cells P.cells 31)
    have hz : ((w1.alloc (.cells P.cells 31)).alloc (.cells P.cells 31)).heap.size = w1.heap.size + 1 + 1 := by simp
    have rm := row_drew (row_made ((w1.alloc (.cells P.cells 31)).alloc (.cells P.cells 31)) T (grownCap ((w1.alloc (.cells P.cells 31)).alloc (.cells P.cells 31)) al 0 5) 5)
    rw [hz] at rm
    have z2 := bel2.size
    rw [hz] at z2
    rw [← ls]
    exact ⟨_, _, rfl, z2, by simp, rm, Below.drew (bel2.alloc bel2.size _)⟩
  case rest =>
    obtain ⟨b, cap, rfl, hB, hb, row, bel⟩ := hcut
    clear hcv sl bel1 B1 CL
    go_wp2_with fail
    refine (wordAt_any s 8 _ hs (by omega)).mono ?_
    rintro r w2 ⟨rfl, q2⟩
    have row2 := row_quiet row q2
    have bel2 := bel.trans (qd_below q2)
    clear row bel q2
    go_wp2_with fail
    have CP := putWord_row _ b cap L 8 (wd s 8 - 256) row2 (by omega) (by omega) (by omega) (by omega)
    rw [ll] at CP
    refine CP.mono ?_
    rintro r w3 ⟨rfl, row3, p3⟩
    clear CP
    have bel3 := p3.below bel2 hB
    clear row2 bel2 p3
    have l3 : (putw L 8 (wd s 8 - 256)).length = al := (putw_length _ _ _).trans ll
    have LL3 : Hid ((putw L 8 (wd s 8 - 256)).length = al) := l3
    clear l3
    go_wp2_with fail
    refine (wordAt_any s 10 _ hs (by omega)).mono ?_
    rintro r w4 ⟨rfl, q4⟩
    have row4 := row_quiet row3 q4
    have bel4 := bel3.trans (qd_below q4)
    clear row3 bel3 q4
    go_wp2_with fail
    refine (sumw.fix_any (wd s 10) (wd s 8) (wd s 8 - 256) _ w10.1 w10.2 w8.1 w8.2 (by omega) (by omega)).mono ?_
    rintro r w5 ⟨rfl, rfl⟩
    rw [← HF.out]
    have l3 := LL3.out
    have CP := putWord_row w5 b cap (putw L 8 (wd s 8 - 256)) 10 F row4 (by rw [l3]; omega) (by rw [l3]; omega) fb.1 fb.2
    rw [l3] at CP
    clear l3
    go_wp2_with fail
    refine CP.mono ?_
    rintro r w6 ⟨rfl, row6, p6⟩
    clear CP
    have bel6 := p6.below bel4 hB
    have hback := row_back (cap := cap) row6
    rw [putw_length, LL3.out, ← HX.out] at hback
    clear row4 bel4 p6 row6
    go_wp2_with fail
    go_ret2
    exact ⟨rfl, bel6⟩
end Go.Proofs.YtedbjhpajpakpaaDoor.iph
