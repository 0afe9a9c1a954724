/- The walk through custkeep.DgramTold. -/
import Derived.Test.YtohonfpmaafnaaaDgLives
import Derived.Test.YtohonfpmaafnaaaRowOf
import Derived.Deep.DeepCutAuto
namespace Go.Proofs.Ytohonfpmaafnaaa.dgt
open Go.ChangeShapes Go.WideShapes Go.ChangeAt Go.RowKit Go.BigFrame
open Go.Proofs.Ytohonfpmaafnaaa Go.Proofs.Ytohonfpmaafnaaa.EM Go.Proofs.Ytohonfpmaafnaaa.ethb Go.Proofs.Ytohonfpmaafnaaa.SM Go.Proofs.Ytohonfpmaafnaaa.ipb Go.Proofs.Ytohonfpmaafnaaa.buf Go.Proofs.Ytohonfpmaafnaaa.boxes Go.Proofs.Ytohonfpmaafnaaa.wds Go.Proofs.Ytohonfpmaafnaaa.dgb Go.Proofs.Ytohonfpmaafnaaa.dgi Go.Proofs.Ytohonfpmaafnaaa.dgw Go.Proofs.Ytohonfpmaafnaaa.dgn Go.Proofs.Ytohonfpmaafnaaa.dgl Go.Proofs.Ytohonfpmaafnaaa.onem Go.Proofs.Ytohonfpmaafnaaa.rwo
open Go.Proofs.Ytohonfpmaafnaaa.refb (Row Row.put)
open Go.Proofs.Ytohonfpmaafnaaa.ipm (btl size_list)

/-- what Read answers to a letter's bytes of which one bit is other -/
theorem letter_turned (p : Lt) (f t : Int) (i r : Nat) (hp : p.Ok) (hf : Ad f) (ht : Ad t) (hr : r < 8) (hi : i < (p.txt f t).length) (h4 : i ≠ 4) (h5 : i ≠ 5) (u : World) :
    ∃ (R : Lt) (er : Int), (Calls Try.prog 10 #[.string ⟨((p.txt f t).set i (turn (p.txt f t)[i] r)).toArray⟩, .int .u32 f, .int .u32 t] u fun e w' => e = .returned (.tuple #[.agg R.cells, .int .i64 er]) ∧ Below u.heap.size u w') ∧
      (er = 5 ∨ (((p.txt f t).set i (turn (p.txt f t)[i] r)).getD 6 0 = 0 ∧ ((p.txt f t).set i (turn (p.txt f t)[i] r)).getD 7 0 = 0)) := by
  refine ⟨_, _, dgr.read_any _ f t u ?_ hf ht, ?_⟩
  · have d1 := hp.d1
    rw [← size_list]
    show ((p.txt f t).set i _).length ≤ _
    rw [List.length_set, p.txt_len]; omega
  · by_cases hc : wd ⟨((p.txt f t).set i (turn (p.txt f t)[i] r)).toArray⟩ 6 = 0
    · right
      unfold wd at hc
      rw [btl, btl] at hc
      simp only [Nat.reduceAdd] at hc
      have a := byte_bd (((p.txt f t).set i (turn (p.txt f t)[i] r)).getD 6 0)
      have b := byte_bd (((p.txt f t).set i (turn (p.txt f t)[i] r)).getD 7 0)
      exact ⟨UInt8.toNat_inj.1 (by show _ = 0; omega), UInt8.toNat_inj.1 (by show _ = 0; omega)⟩
    · exact Or.inl (dgm.lt_turned p hp f t hf.l hf.u ht.l ht.u i r hr hi h4 h5 hc)
theorem note_turned (n : Nt) (i r : Nat) (hp : n.Ok) (hr : r < 8) (hi : i < n.txt.length) (u : World) :
    ∃ R : Nt, Calls Try.prog 16 #[.string ⟨(n.txt.set i (turn n.txt[i] r)).toArray⟩] u fun e w' => e = .returned (.tuple #[.agg R.cells, .int .i64 5]) ∧ Below u.heap.size u w' := by
  have d1 := hp.d1
  have e := dgm.nt_turned n hp i r hr hi
  have := readNote_any ⟨(n.txt.set i (turn n.txt[i] r)).toArray⟩ u (by
    rw [← size_list]
    show (n.txt.set i _).length ≤ _
    rw [List.length_set, n.txt_len]; omega)
  rw [e] at this
  exact ⟨_, this⟩
set_option maxRecDepth 20000 in
set_option maxHeartbeats 4000000 in
theorem walk (p : Lt) (n : Nt) (f t x : Int) (h : p.d.size ≤ 281474976710656) (hn : n.d.size ≤ 281474976710656) (hf : Ad f) (ht : Ad t) (x0 : -9223372036854775808 ≤ x) (x1 : x ≤ 9223372036854775807) (w : World) :
    Calls Try.prog 6 #[.agg p.cells, .agg n.cells, .int .u32 f, .int .u32 t, .int .i64 x] w fun e w' => e = .returned (.bool true) ∧ Below w.heap.size w w' := by
  have CW := fun u => write_any p f t u (by omega) hf ht
  have CN := fun u => writeNote_any n u (by omega)
  have HL : Hid (p.err = 0 → p.out f t = ⟨(p.txt f t).toArray⟩ ∧ p.Ok) := fun he => ⟨by unfold Lt.out; rw [if_pos he], Lt.ok he⟩
  have HN : Hid (n.err = 0 → n.out = ⟨n.txt.toArray⟩ ∧ n.Ok) := fun he => ⟨by unfold Nt.out; rw [if_pos he], Nt.ok he⟩
  generalize p.out f t = S at CW HL
  generalize p.err = pe at CW HL
  generalize n.out = T at CN HN
  generalize n.err = ne at CN HN
  have F0 : Blk ((w.alloc (.cells p.cells 23)).alloc (.cells n.cells 34)) w.heap.size p.cells 23 := (Blk.new _ _ _).alloc _
  have G0 : Blk ((w.alloc (.cells p.cells 23)).alloc (.cells n.cells 34)) (w.heap.size + 1) n.cells 34 := Blk.newAt _ _ _ (by simp)
  have b0 := ((Below.refl w.heap.size w).alloc (Nat.le_refl _) (.cells p.cells 23)).alloc (by simp) (.cells n.cells 34)
  go_enter Try.func6, Try.ntmps6
  go_wp2_with (refine blk_load _ rfl 23 _ rfl w.heap.size rfl _ _ F0 _ Try.underlying23 rfl 3 lt_info rfl ?_)
  refine (CW _).mono ?_
  rintro r w1 ⟨rfl, hb1⟩
  have G1 := G0.below hb1 G0.lt
  have b1 := b0.trans (hb1.mono b0.size)
  clear CW F0 G0 b0 hb1
  go_wp2_with (refine blk_load _ rfl 34 _ rfl (w.heap.size + 1) rfl _ _ G1 _ Try.underlying34 rfl 7 nt_info rfl ?_)
  refine (CN _).mono ?_
  rintro r w2 ⟨rfl, hb2⟩
  have b2 := b1.trans (hb2.mono b1.size)
  clear CN G1 b1 hb2
  go_wp2_with fail
  refine (lives _).mono ?_
  rintro r w3 ⟨rfl, hb3⟩
  have b3 := b2.trans (hb3.mono b2.size)
  clear b2 hb3
  by_cases xn : x < 0
  · go_wp2_with fail
    refine (lives _).mono ?_
    rintro r w4 ⟨rfl, hb4⟩
    have b4 := b3.trans (hb4.mono b3.size)
    go_wp2_with fail
    go_ret
    exact ⟨rfl, b4⟩
  have xn' : decide (x < 0) = false := by simp; omega
  have x8 : 0 ≤ x / 8 := by omega
  have x9 : x / 8 ≤ 1152921504606846976 := by omega
  have xp : 0 ≤ x := by omega
  obtain ⟨i, ei⟩ : ∃ i : Nat, x / 8 = (i : Int) := ⟨(x / 8).toNat, by omega⟩
  obtain ⟨rr, er⟩ : ∃ r : Nat, x % 8 = (r : Int) := ⟨(x % 8).toNat, by omega⟩
  have hr : rr < 8 := by omega
  have tq : x.tdiv 8 = (i : Int) := by rw [Int.tdiv_eq_ediv_of_nonneg xp, ei]
  have tm : x.tmod 8 = (rr : Int) := by rw [Int.tmod_eq_emod_of_nonneg xp, er]
  have i9 : i ≤ 1152921504606846976 := by omega
  have EI : Hid (x / 8 = (i : Int) ∧ x % 8 = (rr : Int)) := ⟨ei, er⟩
  clear xn x8 x9
  obtain ⟨G, hG⟩ : ∃ G : Bool, Hid (G = decide (pe = 0 ∧ i < S.size ∧ i ≠ 4 ∧ i ≠ 5)) := ⟨_, rfl⟩
  go_upto_region 5 with fail
  go_cut [58] (fun c wx => c = .bool G ∧ wx = w3)
  case first =>
    by_cases a1 : pe = 0
    case neg =>
      have a1' : (pe == 0) = false := by simpa using a1
      go_wp2_with fail
      go_meet
      exact ⟨by rw [hG.out]; simp [a1], rfl⟩
    subst a1
    by_cases a2 : i < S.size
    case neg =>
      have a2' : decide ((i : Int) < S.size) = false := by simp; omega
      go_wp2_with fail
      go_meet
      exact ⟨by rw [hG.out]; simp [a2], rfl⟩
    have a2' : decide ((i : Int) < S.size) = true := by simp; omega
    by_cases a3 : i = 4
    · have a3' : ((i : Int) != 4) = false := by simp; omega
      have EG : Hid (G = false) := by show _ = _; rw [hG.out]; simp [a3]
      clear a3 hG
      go_wp2_with fail
      go_meet
      exact ⟨by rw [EG.out], rfl⟩
    have a3' : ((i : Int) != 4) = true := by simp; omega
    by_cases a4 : i = 5
    · have a4' : ((i : Int) != 5) = false := by simp; omega
      have EG : Hid (G = false) := by show _ = _; rw [hG.out]; simp [a4]
      clear a4 a3 hG
      go_wp2_with fail
      go_meet
      exact ⟨by rw [EG.out], rfl⟩
    have a4' : ((i : Int) != 5) = true := by simp; omega
    have EG : Hid (G = true) := by show _ = _; rw [hG.out]; simp [a2, a3, a4]
    clear a4 a3 hG
    go_wp2_with fail
    go_meet
    exact ⟨by rw [EG.out], rfl⟩
  case rest =>
    obtain ⟨rfl, rfl⟩ := hcut
    go_upto_if 58 with fail
    go_cut [] (fun wx => Below w.heap.size w wx)
    case first =>
      cases G with
      | false =>
        go_wp2_with fail
        go_meet
        exact b3
      | true =>
        have hg : pe = 0 ∧ i < S.size ∧ i ≠ 4 ∧ i ≠ 5 := by have := hG.out; simpa using this.symm
        obtain ⟨pz, hiS, h4, h5⟩ := hg
        obtain ⟨eS, hp⟩ := HL.out pz
        have d1 := hp.d1
        have lS : S.data.toList = p.txt f t := by rw [eS]
        have zL : (p.txt f t).length = 8 + p.d.size := p.txt_len f t
        have zS : S.size = (p.txt f t).length := by rw [← size_list, lS]
        have hi : i < (p.txt f t).length := by omega
        have hcv := rwo.conv S
        have CR := fun u => letter_turned p f t i rr hp hf ht hr hi h4 h5 u
        obtain ⟨L', hL'⟩ : ∃ L', L' = (p.txt f t).set i (turn (p.txt f t)[i] rr) := ⟨_, rfl⟩
        rw [← hL'] at CR
        have hT1 : turn (p.txt f t)[i] rr = turn (S.data.toList[i]'(by rw [lS]; exact hi)) rr := by simp only [lS]
        obtain ⟨L, hL⟩ : ∃ L, L = p.txt f t := ⟨_, rfl⟩
        have hil : i < L.length := by rw [hL]; exact hi
        have HFL : Hid (L' = L.set i (turn L[i] rr)) := by
          show _ = _
          subst hL
          exact hL'
        rw [← hL] at zS zL lS
        clear hL hL' hT1 eS hi HL hG h4 h5 hp pz
        obtain ⟨m, hm⟩ : ∃ m, S.size = m := ⟨_, rfl⟩
        rw [hm] at hcv zS hiS
        have m1 : m ≤ 65535 := by omega
        have im : (i : Int) < m := by omega
        have m8 : 8 ≤ m := by omega
        have zL' : L'.length = m := by rw [HFL.out, List.length_set]; exact zS.symm
        have HZ : Hid (m = L.length ∧ L'.length = m) := ⟨zS, zL'⟩
        clear zS zL zL'
        go_upto_region 6 with fail
        go_cut [15] (fun v wx => ∃ b cap, v = .slice (some ⟨b, 0, none⟩) m cap ∧ m ≤ cap ∧ w.heap.size ≤ b ∧ b < wx.heap.size ∧ Row wx b L ∧ Below w.heap.size w wx)
        case first =>
          go_wp2_with fail
          go_meet
          have rm := row_drew (row_made wc S (grownCap wc m 0 5) 5)
          rw [← lS]
          exact ⟨_, _, rfl, grownCap_ge _ _ _ _, b3.size, by simp, rm, Below.drew (b3.alloc b3.size _)⟩
        case rest =>
          obtain ⟨b, cap, rfl, hcap, hB, hb, row, bel⟩ := hcut
          clear hcv lS
          obtain ⟨c0, f0⟩ := row i hil
          go_wp2_with fail
          go_region
          rw [bits_turn _ _ hr]
          have hput : Row (wc.setCell ⟨b, i, none⟩ (.int .u8 ((turn L[i] rr).toNat : Int))).drew b L' := by
            rw [HFL.out]; exact row_drew (row.put i hil _)
          have b4 : Below w.heap.size w (wc.setCell ⟨b, i, none⟩ (.int .u8 ((turn L[i] rr).toNat : Int))).drew := Below.drew (bel.setCell (p := ⟨b, i, none⟩) hB _)
          generalize (wc.setCell ⟨b, i, none⟩ (.int .u8 ((turn L[i] rr).toNat : Int))).drew = W at hput b4 ⊢
          obtain ⟨ez, ez'⟩ := HZ.out
          have hbW : b < W.heap.size := row_lt hput (by omega)
          have hback := row_back (cap := cap) hput
          rw [ez'] at hback
          obtain ⟨R, e', CR1, hor⟩ := CR W
          clear CR row c0 f0 bel
          generalize (⟨L'.toArray⟩ : ByteArray) = Z at CR1 hback
          have l6 : 6 < L'.length := by omega
          have l7 : 7 < L'.length := by omega
          clear ez ez' HZ
          go_wp2_with fail
          refine CR1.mono ?_
          rintro r w5 ⟨rfl, hb5⟩
          have b5 := b4.trans (hb5.mono b4.size)
          have R5 := row_below hput hb5 hbW
          have lb5 : b < w5.heap.size := Nat.lt_of_lt_of_le hbW hb5.size
          have R6 := row_alloc R5 lb5 (.cells R.cells 23)
          have b6 := b5.alloc b5.size (.cells R.cells 23)
          clear CR1 hb5 hback hput b4 R5 b5
          by_cases e5 : e' = 5
          · subst e5
            clear hor
            go_wp2_with fail
            go_meet
            exact b6
          · have e5' : (e' != 5) = true := by simpa using e5
            obtain ⟨z6, z7⟩ := hor.resolve_left e5
            have c6 := (R6 6 l6).1
            have c7 := (R6 7 l7).1
            rw [show L'[6] = 0 by rw [List.getD_eq_getElem?_getD, List.getElem?_eq_getElem l6] at z6; exact z6, show (((0 : UInt8).toNat : Nat) : Int) = 0 from rfl] at c6
            rw [show L'[7] = 0 by rw [List.getD_eq_getElem?_getD, List.getElem?_eq_getElem l7] at z7; exact z7, show (((0 : UInt8).toNat : Nat) : Int) = 0 from rfl] at c7
            clear hor e5 z6 z7 R6
            have m6 : (6 : Int) < m := by omega
            have m7 : (7 : Int) < m := by omega
            go_wp2_with fail
            go_meet
            exact b6
    case rest =>
      have b7 : Below w.heap.size w wc := hcut
      clear hcut
      by_cases nz : ne = 0
      case neg =>
        have nz' : (ne == 0) = false := by simpa using nz
        go_wp2_with fail
        go_ret
        exact ⟨rfl, b7⟩
      subst nz
      obtain ⟨eT, hp⟩ := HN.out rfl
      have d1 := hp.d1
      have lT : T.data.toList = n.txt := by rw [eT]
      have zL : n.txt.length = 8 + n.d.size := n.txt_len
      have zT : T.size = n.txt.length := by rw [← size_list, lT]
      by_cases it : i < T.size
      case neg =>
        have it' : decide ((i : Int) < T.size) = false := by simp; omega
        clear eT lT zT
        go_wp2_with fail
        go_ret
        exact ⟨rfl, b7⟩
      have it' : decide ((i : Int) < T.size) = true := by simp; omega
      have hi : i < n.txt.length := by omega
      have hcv := rwo.conv T
      have CR := fun u => note_turned n i rr hp hr hi u
      obtain ⟨L', hL'⟩ : ∃ L', L' = n.txt.set i (turn n.txt[i] rr) := ⟨_, rfl⟩
      rw [← hL'] at CR
      obtain ⟨L, hL⟩ : ∃ L, L = n.txt := ⟨_, rfl⟩
      have hil : i < L.length := by rw [hL]; exact hi
      have HFL : Hid (L' = L.set i (turn L[i] rr)) := by
        show _ = _
        subst hL
        exact hL'
      rw [← hL] at zT zL lT
      clear hL hL' eT hi HN hp HL hG
      obtain ⟨m, hm⟩ : ∃ m, T.size = m := ⟨_, rfl⟩
      rw [hm] at hcv zT it it'
      have m1 : m ≤ 65535 := by omega
      have im : (i : Int) < m := by omega
      have zL' : L'.length = m := by rw [HFL.out, List.length_set]; exact zT.symm
      have HZ : Hid (m = L.length ∧ L'.length = m) := ⟨zT, zL'⟩
      clear zT zL zL'
      go_upto_region 12 with fail
      go_cut [18] (fun v wx => ∃ b cap, v = .slice (some ⟨b, 0, none⟩) m cap ∧ m ≤ cap ∧ w.heap.size ≤ b ∧ b < wx.heap.size ∧ Row wx b L ∧ Below w.heap.size w wx)
      case first =>
        go_wp2_with fail
        go_meet
        have rm := row_drew (row_made wc T (grownCap wc m 0 5) 5)
        rw [← lT]
        exact ⟨_, _, rfl, grownCap_ge _ _ _ _, b7.size, by simp, rm, Below.drew (b7.alloc b7.size _)⟩
      case rest =>
        obtain ⟨b, cap, rfl, hcap, hB, hb, row, bel⟩ := hcut
        clear hcv lT
        obtain ⟨c0, f0⟩ := row i hil
        go_wp2_with fail
        go_region
        rw [bits_turn _ _ hr]
        have hput : Row (wc.setCell ⟨b, i, none⟩ (.int .u8 ((turn L[i] rr).toNat : Int))).drew b L' := by
          rw [HFL.out]; exact row_drew (row.put i hil _)
        have b4 : Below w.heap.size w (wc.setCell ⟨b, i, none⟩ (.int .u8 ((turn L[i] rr).toNat : Int))).drew := Below.drew (bel.setCell (p := ⟨b, i, none⟩) hB _)
        generalize (wc.setCell ⟨b, i, none⟩ (.int .u8 ((turn L[i] rr).toNat : Int))).drew = W at hput b4 ⊢
        obtain ⟨ez, ez'⟩ := HZ.out
        have hback := row_back (cap := cap) hput
        rw [ez'] at hback
        obtain ⟨R, CR1⟩ := CR W
        clear CR row c0 f0 bel
        generalize (⟨L'.toArray⟩ : ByteArray) = Z at CR1 hback
        clear ez ez' HZ hput
        go_wp2_with fail
        refine CR1.mono ?_
        rintro r w5 ⟨rfl, hb5⟩
        have b5 := b4.trans (hb5.mono b4.size)
        have b6 := b5.alloc b5.size (.cells R.cells 34)
        clear CR1 hb5 hback b4 b5
        go_wp2_with fail
        go_ret
        exact ⟨rfl, b6⟩
end Go.Proofs.Ytohonfpmaafnaaa.dgt
