/- The walk through custkeep.FragFits. -/
import Derived.Test.YtlbpapngcgnepaaFragLives
import Derived.BigQuiet
namespace Go.Proofs.Ytlbpapngcgnepaa.frf
open Go.ChangeShapes Go.WideShapes Go.ChangeAt Go.RowKit Go.BigFrame
open Go.Proofs.Ytlbpapngcgnepaa Go.Proofs.Ytlbpapngcgnepaa.ipb Go.Proofs.Ytlbpapngcgnepaa.boxes Go.Proofs.Ytlbpapngcgnepaa.ipr Go.Proofs.Ytlbpapngcgnepaa.frb Go.Proofs.Ytlbpapngcgnepaa.frs Go.Proofs.Ytlbpapngcgnepaa.frm Go.Proofs.Ytlbpapngcgnepaa.frl
open Go.Proofs.Ytlbpapngcgnepaa.rws (Own Knd app_own elem_load)

set_option maxRecDepth 20000 in
set_option maxHeartbeats 2000000 in
theorem bad (p : Pk) (m ot : Int) (w : World) (h : 20 + p.o.size + p.d.size ≤ 9223372036854775807) (ha : p.Adr) (he : ¬ spe p m = 0) :
    Calls Try.prog 6 #[.agg p.cells, .int .i64 m, .int .i64 ot] w fun e w' => e = .returned (.bool true) ∧ Below w.heap.size w w' := by
  have CS := fun u => split_any p m u h ha
  have CL := fun u => lives u
  rw [show spl p m = [] by unfold spl; rw [if_pos he]] at CS
  generalize spe p m = er at CS he
  have he' : (er != 0) = true := by simpa using he
  have F0 := Blk.new w p.cells 24
  have b0 := (Below.refl w.heap.size w).alloc (Nat.le_refl _) (.cells p.cells 24)
  go_enter Try.func6, Try.ntmps6
  go_wp2_with (refine blk_load _ rfl 24 _ rfl w.heap.size rfl _ _ F0 _ Try.underlying24 rfl 11 pk_info rfl ?_)
  refine (CS _).mono ?_
  rintro r w1 ⟨v1, rfl, O1, hb1⟩
  have b1 := b0.trans (hb1.mono b0.size)
  obtain ⟨a1, c1, rfl⟩ : ∃ a1 c1, v1 = .slice a1 0 c1 := by
    rcases O1.forms with ⟨rfl, _⟩ | ⟨g, c, rfl, _⟩
    · exact ⟨_, _, rfl⟩
    · exact ⟨_, _, rfl⟩
  clear CS F0 O1 hb1 b0
  go_wp2_with fail
  refine (CL _).mono ?_
  rintro r w2 ⟨rfl, hb2⟩
  have b2 := b1.trans (hb2.mono b1.size)
  clear hb2 b1
  go_wp2_with fail
  refine (CL _).mono ?_
  rintro r w3 ⟨rfl, hb3⟩
  have b3 := b2.trans (hb3.mono b2.size)
  clear hb3 b2
  go_wp2_with fail
  go_ret
  exact ⟨rfl, b3⟩
/-- the text of bytes -/
def tx (l : List UInt8) : ByteArray := ⟨l.toArray⟩
theorem tx_cat (l : List UInt8) (d : ByteArray) : tx l ++ d = tx (l ++ d.data.toList) := ipm.bytes_ext (by simp [tx])
theorem tx_size (l : List UInt8) : (tx l).size = l.length := by show l.toArray.size = _; simp
theorem tx_of (d : ByteArray) : tx d.data.toList = d := ipm.bytes_ext (by simp [tx])
theorem take_succ {L : List Pk} {i : Nat} {q : Pk} (h : L[i]? = some q) : jn (L.take (i + 1)) = jn (L.take i) ++ q.d.data.toList := by
  rw [List.take_add_one, h, jn_append]; simp [jn]
set_option maxRecDepth 20000 in
set_option maxHeartbeats 8000000 in
theorem good (p : Pk) (m ot : Int) (w : World) (h : 20 + p.o.size + p.d.size ≤ 9223372036854775807) (ha : p.Adr) (he : spe p m = 0) :
    Calls Try.prog 6 #[.agg p.cells, .int .i64 m, .int .i64 ot] w fun e w' => e = .returned (.bool true) ∧ Below w.heap.size w w' := by
  have CS := fun u => split_any p m u h ha
  have CL := fun u => lives u
  rw [he] at CS
  have hN := spl_len he
  have hJ := jn_spl he
  have hP : ∀ i q, (spl p m)[i]? = some q → q.Ok ∧ (Pk.sz q : Int) ≤ m ∧ q.wh = p.wh ∧ 8 * q.st = 8 * p.st + (jn ((spl p m).take i)).length ∧ q.Adr := fun i q hq => by
    have := piece_of he hq
    exact ⟨this.ok, this.sz, this.wh, this.st, ⟨by rw [this.fr]; exact ha.f0, by rw [this.fr]; exact ha.f1, by rw [this.to]; exact ha.t0, by rw [this.to]; exact ha.t1⟩⟩
  obtain ⟨ql, hql, hmo⟩ := last_mo he
  have hok := (spl_ok he).ok
  have hd : p.d.size ≤ 65535 := by have := hok.all; omega
  have st0 := hok.st0
  have st1 := hok.st1
  have hlb : ∀ i, (jn ((spl p m).take i)).length ≤ 65535 := fun i => by
    have e1 : jn (spl p m) = jn ((spl p m).take i) ++ jn ((spl p m).drop i) := by rw [← jn_append, List.take_append_drop]
    have e2 := congrArg List.length e1
    rw [hJ, List.length_append] at e2
    have : p.d.data.toList.length = p.d.size := by simp
    omega
  generalize spl p m = L at *
  have F0 := Blk.new w p.cells 24
  have b0 := (Below.refl w.heap.size w).alloc (Nat.le_refl _) (.cells p.cells 24)
  clear he hok
  go_enter Try.func6, Try.ntmps6
  go_wp2_with (refine blk_load _ rfl 24 _ rfl w.heap.size rfl _ _ F0 _ Try.underlying24 rfl 11 pk_info rfl ?_)
  refine (CS _).mono ?_
  rintro r w1 ⟨v1, rfl, O1, hb1⟩
  have b1 := b0.trans (hb1.mono b0.size)
  have F1 := F0.below hb1 F0.lt
  obtain ⟨g, cap, rfl, g0, g1, _, _, _⟩ := O1.form hN.1
  clear CS F0 hb1 b0
  go_wp2_with fail
  refine (CL _).mono ?_
  rintro r W0 ⟨rfl, hb2⟩
  have b2 := b1.trans (hb2.mono b1.size)
  have F2 := F1.below hb2 F1.lt
  have O2 := O1.kept hb2
  have g2 : g < W0.heap.size := Nat.lt_of_lt_of_le g1 hb2.size
  have s2 : w.heap.size < W0.heap.size := F2.lt
  clear hb2 b1 F1 O1 CL
  go_wp2_with fail
  go_loopw [9, 10, 40] (fun s9 s10 s40 wr => ∃ (i : Nat) (A : List Pk), s9 = .string (tx (jn (L.take i))) ∧ s40 = .int .i64 (i : Int) ∧ i ≤ L.length ∧ Own PK wr W0.heap.size s10 A ∧ jn A = jn (L.take i) ∧ A.length ≤ (jn (L.take i)).length + i ∧ i ≤ A.length ∧ Below W0.heap.size W0 wr) (fun _ _ i _ => 200000 - (intOf i).toNat)
  case atStart => exact ⟨0, [], rfl, rfl, Nat.zero_le _, Own.nil _ _ _, rfl, Nat.zero_le _, Nat.zero_le _, Below.refl _ _⟩
  case round =>
    obtain ⟨i, A, rfl, rfl, hi, OA, hA, hAl, hAi, b⟩ := hrel
    have O3 := O2.kept b
    have F3 := F2.below b s2
    by_cases hlt : i < L.length
    · obtain ⟨q, hq⟩ : ∃ q, L[i]? = some q := ⟨L[i], List.getElem?_eq_getElem hlt⟩
      obtain ⟨qok, qsz, qwh, qst, qadr⟩ := hP i q hq
      have hlt' : (i : Int) < (L.length : Int) := by omega
      have hi9 : (i : Int) ≤ 65535 := by omega
      have q0 := qok.st0
      have q1 := qok.st1
      have qd : q.d.size ≤ 65535 := by have := qok.all; omega
      have qsz2 : 20 + q.o.size + q.d.size ≤ 9223372036854775807 := by have := qok.all; omega
      have CW := fun u => write_any q u qsz2 qadr
      rw [qok.err] at CW
      have hT : (q.out.size : Int) ≤ m := by rw [show q.out = ⟨q.txt.toArray⟩ by unfold Pk.out; rw [if_pos qok.err], txt_size]; exact qsz
      have CS := fun u => split_any q ot u qsz2 qadr
      have hT' : ¬ m < (q.out.size : Int) := by omega
      generalize q.out = T at CW hT hT'
      have hlbi := hlb i
      have hst : 8 * q.st = 8 * p.st + ((tx (jn (L.take i))).size : Int) := by rw [tx_size]; exact qst
      have hts : (tx (jn (L.take i))).size ≤ 65535 := by rw [tx_size]; exact hlbi
      have hcat : tx (jn (L.take i)) ++ q.d = tx (jn (L.take (i + 1))) := by rw [tx_cat, take_succ hq]
      generalize tx (jn (L.take i)) = D at hst hcat hts
      clear hJ hql hmo hN qst
      go_wp2_with (first | (refine elem_load PK _ rfl _ rfl _ g L.length cap L O3 i _ rfl rfl q hq q.cells rfl _ Try.underlying24 rfl ?_) | (refine blk_store _ rfl 24 _ _ rfl wr.heap.size q.cells rfl rfl _ 24 (Blk.new _ _ _) 11 pk_info rfl rfl (pk_one q) ?_))
      intro W1 B1 u1
      have hB := b.size
      have v1 := u1.below (b.alloc hB _) hB
      have l1 : wr.heap.size < W1.heap.size := B1.lt
      have OA1 : Own PK W1 W0.heap.size u10 A := (OA.alloc _).but u1 (fun e => by have := (World.ownsRow.lt OA _ e).2; omega)
      clear OA u1
      go_wp2_with (refine blk_load _ rfl 24 _ rfl wr.heap.size rfl _ _ B1 _ Try.underlying24 rfl 11 pk_info rfl ?_)
      refine (CW _).mono ?_
      rintro r W2 ⟨rfl, c2⟩
      have v2 := v1.trans (c2.mono v1.size)
      have B2 := B1.below c2 B1.lt
      have OA2 := OA1.kept c2
      have F4 := F2.below v2 s2
      clear CW OA1 B1 v1 l1 c2
      have e2 := B2.cell
      have e4 := F4.cell
      have l2 := B2.lt
      have l4 := F4.lt
      go_wp2_with (refine blk_load _ rfl 24 _ rfl wr.heap.size rfl _ _ B2 _ Try.underlying24 rfl 11 pk_info rfl ?_)
      refine (CS _).mono ?_
      rintro r W3 ⟨v3, rfl, O5, c3⟩
      have v3' := v2.trans (c3.mono v2.size)
      have B3 := B2.below c3 B2.lt
      have OA3 := OA2.kept c3
      have F5 := F2.below v3' s2
      have bel := b2.trans (v3'.mono b2.size)
      clear CS c3 B2 F4 e2 e4 l2 l4 OA2 v2
      have e3 := B3.cell
      have e5 := F5.cell
      have l3 := B3.lt
      have l5 := F5.lt
      by_cases hs : spe q ot = 0
      · rw [hs]
        have hM := spl_len hs
        have hMj := jn_spl hs
        generalize spl q ot = M at O5 hM hMj
        obtain ⟨gm, cm, rfl, gm0, gm1, _, _, hcm⟩ := O5.form hM.1
        have hcat2 := take_succ hq
        have hlen : (A ++ M).length ≤ (jn (L.take (i + 1))).length + (i + 1) := by
          rw [hcat2, List.length_append, List.length_append]
          have : q.d.data.toList.length = q.d.size := by simp
          omega
        have hjj : jn (A ++ M) = jn (L.take (i + 1)) := by rw [jn_append, hA, hMj, hcat2]
        have hAM : A.length + M.length ≤ 200000 := by have := hlb (i + 1); rw [List.length_append] at hlen; omega
        have hcells : ∀ j u, (PK.cs M)[j]? = some u → W3.cell? ((⟨gm, 0, none⟩ : Addr).add j) = some u := fun j u hj => World.ownsRow.cells O5 rfl j u hj
        have hlen' : Hid ((A ++ M).length ≤ (jn (L.take (i + 1))).length + (i + 1)) := hlen
        clear hcat2 hMj hlen hs hcm
        go_wp2_with (at_builtin; refine app_own PK _ rfl _ _ rfl W0.heap.size _ A rfl OA3 ⟨gm, 0, none⟩ M.length cm M rfl rfl hcells (by unfold maxLen; omega) (by show (A.length + M.length) * 88 ≤ 140737488355328; omega) v3'.size ?_)
        intro v4 W4 OA4 c4 _
        have v4' := v3'.trans c4
        clear e3 e5 l3 l5 B3 F5
        go_wp2_with fail
        go_roundw
        case rel => exact ⟨i + 1, A ++ M, rfl, by simp, by omega, OA4, hjj, hlen'.out, by rw [List.length_append]; omega, v4'⟩
        case measure => simp [intOf]; omega
      · have hq1 : ot < 68 ∨ 65535 < ot ∨ p.wh = true ∨ 65515 < 8 * q.st + q.d.size := by
          unfold spe at hs
          rw [if_neg (by rw [qok.err]; decide)] at hs
          by_cases h1 : ot < 68 ∨ 65535 < ot
          · omega
          · rw [if_neg h1] at hs
            by_cases h2 : (Pk.sz q : Int) ≤ ot
            · rw [if_pos h2] at hs; exact absurd rfl hs
            · rw [if_neg h2] at hs
              by_cases h3 : q.wh = true
              · rw [qwh] at h3; exact Or.inr (Or.inr (Or.inl h3))
              · rw [if_neg h3] at hs
                by_cases h4 : 65515 < 8 * q.st + q.d.size
                · exact Or.inr (Or.inr (Or.inr h4))
                · rw [if_neg h4] at hs; exact absurd rfl hs
        generalize spe q ot = er at hs
        have hs' : (er != 0) = true := by simpa using hs
        clear OA3 O5 B3 F5 hst hP hlb
        by_cases k1 : ot < 68
        · go_wp2_with fail
          go_ret
          exact ⟨rfl, bel⟩
        · by_cases k2 : 65535 < ot
          · go_wp2_with fail
            go_ret
            exact ⟨rfl, bel⟩
          · by_cases k3 : p.wh = true
            · go_wp2_with fail
              go_ret
              exact ⟨rfl, bel⟩
            · have k3' : p.wh = false := by simpa using k3
              have k4 : 65515 < 8 * q.st + q.d.size := by
                rcases hq1 with h1 | h1 | h1 | h1
                · omega
                · omega
                · exact absurd h1 k3
                · exact h1
              clear hq1
              go_wp2_with fail
              go_ret
              exact ⟨rfl, bel⟩
    · have hin : i = L.length := by omega
      have hA2 : jn A = p.d.data.toList := by rw [hA, hin, List.take_length, hJ]
      have hD : tx (jn (L.take i)) = p.d := by rw [hin, List.take_length, hJ, tx_of]
      rw [hD]
      have hlt' : ¬ (i : Int) < (L.length : Int) := by omega
      have hAn : A.length ≤ 200000 := by have := hlb i; omega
      have hi9 : i ≤ 65536 := by omega
      have hA1 : 0 < A.length := by omega
      have hnn : ((L.length - 1 : Nat) : Int) = (L.length : Int) - 1 := by omega
      obtain ⟨ga, ca, rfl, ga0, ga1, _, _, _⟩ := OA.form hA1
      have bel := b2.trans (b.mono b2.size)
      clear hlb hP hA hAl hD hin hAi F3
      go_wp2_with fail
      clear hlt hlt' hi9
      generalize wr = V at *
      go_loopw [17, 107] (fun s17 s107 W => ∃ j : Nat, s17 = .string (tx (jn (A.take j))) ∧ s107 = .int .i64 (j : Int) ∧ j ≤ A.length ∧ Below V.heap.size V W) (fun _ j _ => 300000 - (intOf j).toNat)
      case atStart => exact ⟨0, rfl, rfl, Nat.zero_le _, Below.refl _ _⟩
      case round =>
        obtain ⟨j, rfl, rfl, hj, c⟩ := hrel
        have OB := OA.kept c
        have hB := c.size
        by_cases hlj : j < A.length
        · obtain ⟨q, hq⟩ : ∃ q, A[j]? = some q := ⟨A[j], List.getElem?_eq_getElem hlj⟩
          have hlj' : (j : Int) < (A.length : Int) := by omega
          have hcat : tx (jn (A.take j)) ++ q.d = tx (jn (A.take (j + 1))) := by rw [tx_cat, take_succ hq]
          have hsum : (tx (jn (A.take j))).size + q.d.size ≤ 65535 := by
            have e1 : jn A = jn (A.take (j + 1)) ++ jn (A.drop (j + 1)) := by rw [← jn_append, List.take_append_drop]
            have e2 := congrArg List.length e1
            rw [hA2, List.length_append, take_succ hq, List.length_append] at e2
            have e3 : q.d.data.toList.length = q.d.size := by simp
            have e4 : p.d.data.toList.length = p.d.size := by simp
            rw [tx_size]; omega
          generalize tx (jn (A.take j)) = D at hcat hsum
          clear hJ hql hmo hN hA2
          go_wp2_with (first | (refine elem_load PK _ rfl _ rfl _ ga A.length ca A OB j _ rfl rfl q hq q.cells rfl _ Try.underlying24 rfl ?_) | (refine blk_store _ rfl 24 _ _ rfl wr.heap.size q.cells rfl rfl _ 24 (Blk.new _ _ _) 11 pk_info rfl rfl (pk_one q) ?_))
          intro W1 B1 u1
          have v1 := u1.below (c.alloc hB _) hB
          have e1 := B1.cell
          have l1 := B1.lt
          go_wp2_with fail
          go_roundw
          case rel => exact ⟨j + 1, rfl, by simp, by omega, v1⟩
          case measure => simp [intOf]; omega
        · have hjn : j = A.length := by omega
          have hlj' : ¬ (j : Int) < (A.length : Int) := by omega
          have hD : tx (jn (A.take j)) = p.d := by rw [hjn, List.take_length, hA2, tx_of]
          rw [hD]
          have c2 := b.trans (c.mono b.size)
          have bel2 := b2.trans (c2.mono b2.size)
          have F6 := F2.below c2 s2
          have O6 := O2.kept c2
          have x6 := F6.cell
          obtain ⟨n, hn⟩ : ∃ n, L.length = n + 1 := ⟨L.length - 1, by omega⟩
          have hql' : L[n]? = some ql := by rw [hn] at hql; exact hql
          have y6 : wr.cell? ⟨g, n * 11 + 3, none⟩ = some (.bool p.mo) := (O6.cell hql' (i := 3) (by decide)).trans (by rw [← hmo]; rfl)
          have hn9 : (n : Int) ≤ 65535 := by omega
          have y10 := x6 10
          have y3 := x6 3
          have l6 := F6.lt
          have lg : g < wr.heap.size := Nat.lt_of_lt_of_le g2 c2.size
          clear hJ hql hql' hmo hN hA2 hD hjn OA OB O6 F6 F2 O2 x6 c c2 b b2 bel hnn
          rw [hn]
          clear hn
          go_wp2_with fail
          go_quiet (fail)
          go_wp2_with fail
          go_ret
          exact ⟨rfl, bel2.trans ⟨rfl, rfl, rfl, Nat.le_refl _, fun _ _ => rfl⟩⟩
end Go.Proofs.Ytlbpapngcgnepaa.frf
