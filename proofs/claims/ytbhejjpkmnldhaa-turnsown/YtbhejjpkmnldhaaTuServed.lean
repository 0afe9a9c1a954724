/- turns.served: how many of a queue go in one round, and what is saved. -/
import Derived.Test.YtbhejjpkmnldhaaTuSmall
namespace Go.Proofs.Ytbhejjpkmnldhaa.tu
open Go.ChangeShapes Go.WideShapes Go.ChangeAt Go.RowKit Go.BigFrame
open Go.Proofs.Ytbhejjpkmnldhaa Go.Proofs.Ytbhejjpkmnldhaa.boxes Go.Proofs.Ytbhejjpkmnldhaa.rwr
open Go.Proofs.Ytbhejjpkmnldhaa.rws (Knd Own)

theorem ret_two {a b c d : Int} (h : a = b) (k : c = d) : Ending.returned (.tuple #[.int .i64 a, .int .i64 c]) = .returned (.tuple #[.int .i64 b, .int .i64 d]) := by rw [h, k]
set_option maxRecDepth 20000 in
set_option maxHeartbeats 1000000 in
theorem served_any (x : Qv) (q : Qu) (w : World) (h1 : x.sh = q.sh) (h2 : x.sv = q.sv) (h : Rd NK w x.sl q.l) (hf : Fine q) :
    Calls Try.prog 22 #[.agg (Qv.cells x)] w fun e w' => e = .returned (.tuple #[.int .i64 (many q : Int), .int .i64 (left q)]) ∧ Below w.heap.size w w' := by
  have b1 := (Below.refl w.heap.size w).alloc (Nat.le_refl _) (.cells (Qv.cells x) 41)
  have F0 := Blk.new w (Qv.cells x) 41
  have h3 := h.below b1
  have hm := rd_len h
  have g1 := hf.sv0
  have g2 := hf.svm
  have g3 := hf.sh0
  have g4 := hf.sh1
  have HZ : Hid (∀ (k : Nat) (y : Int), q.l[k]? = some y → 1 ≤ y ∧ y ≤ 1000000) := fun k y hk => hf.sz y (List.mem_of_getElem? hk)
  have HA : Hid (∀ k s, St (q.sv + q.sh) q.l k s → k = q.l.length → many q = k ∧ left q = 0) := fun _ _ h e => h.all e
  have HB : Hid (∀ k s y, St (q.sv + q.sh) q.l k s → q.l[k]? = some y → s < y → many q = k ∧ left q = s) := fun _ _ _ h e n => h.stop e (by omega)
  have H0 : Hid (St (q.sv + q.sh) q.l 0 (q.sv + q.sh)) := st_zero (by omega)
  obtain ⟨sh, sv, sa, sn, sc⟩ := x
  dsimp only [Qv.cells, Qv.sl] at *
  have hn : sn = q.l.length := rd_n h
  have HC : Hid (0 < q.l.length → ∃ b off, sa = some ⟨b, off, none⟩ ∧ b < (w.alloc (.cells (QC sh sv (.slice sa sn sc)) 41)).heap.size ∧ ∀ (j : Nat) x, q.l[j]? = some x → (w.alloc (.cells (QC sh sv (.slice sa sn sc)) 41)).cell? ⟨b, off + j, none⟩ = some (.int .i64 x)) := fun hp => int_cells h3 hp
  have HG : Hid (∀ i, i < q.l.length → ∃ x, q.l[i]? = some x) := fun i hi => ⟨q.l[i], List.getElem?_eq_getElem hi⟩
  subst hn
  subst h1 h2
  clear h h3 hf
  generalize many q = M at *
  generalize left q = R at *
  generalize hS : q.sv + q.sh = S at *
  have wS : wrap64 (q.sv + q.sh) = S := by unfold wrap64; omega
  have s1 : 0 ≤ S := by omega
  have s2 : S ≤ 2000000 := by omega
  have HS0 : Hid (q.sv + q.sh = S) := hS
  clear hS
  generalize q.sv = sv at *
  generalize q.sh = sh at *
  generalize q.l = l at *
  generalize l.length = n at *
  go_enter Try.func22, Try.ntmps22
  go_upto_region 1 with fail
  generalize hW : w.alloc (Obj.cells (QC sh sv (.slice sa n sc)) 41) = W at *
  clear hW
  have cF := F0.cell
  go_wp2_with fail
  go_loopw [2, 3] (fun s2 s3 wr => ∃ (k : Nat) (s : Int), s2 = .int .i64 (k : Int) ∧ s3 = .int .i64 s ∧ k ≤ n ∧ 0 ≤ s ∧ s ≤ 2000000 ∧ Hid (St S l k s) ∧ wr = W) (fun s _ _ => n - (intOf s).toNat)
  case atStart => exact ⟨0, S, rfl, by simpa using HS0.out, Nat.zero_le _, s1, s2, H0.out, rfl⟩
  case round =>
    obtain ⟨k, s, rfl, rfl, hk, k1, k2, HS, rfl⟩ := hrel
    have HB2 : Hid (∀ y, l[k]? = some y → s < y → M = k ∧ R = s) := fun y h1 h2 => HB.out k s y HS.out h1 h2
    have HA2 : Hid (k = n → M = k ∧ R = 0) := fun h => HA.out k s HS.out h
    clear HA HB
    by_cases hlt : k < n
    · have hlt' : (k : Int) < (n : Int) := by omega
      obtain ⟨y, hy⟩ := HG.out k hlt
      obtain ⟨b, off, rfl, hb, hc⟩ := HC.out (by omega)
      have c1 := hc k y hy
      obtain ⟨y0, y1⟩ := HZ.out k y hy
      by_cases hle : y ≤ s
      · have HN : Hid (St S l (k + 1) (s - y)) := HS.out.next hy hle (by omega)
        have ws : wrap64 (s - y) = s - y := by unfold wrap64; omega
        clear HA2 HB2 HS hy hc HC HG HZ
        go_wp2_with fail
        go_roundw
        case rel => exact ⟨k + 1, s - y, by go_num, rfl, by omega, by omega, by omega, HN, trivial⟩
        case measure => simp [intOf]; omega
      · have HLE : Hid (¬ y ≤ s) := hle
        have ne : ¬ (k : Int) = (n : Int) := by omega
        obtain ⟨r1, r2⟩ := HB2.out y hy (by have := HLE.out; omega)
        have RR : Hid (M = k ∧ R = s) := ⟨r1, r2⟩
        clear HA2 HB2 HS hy hc HC HG HZ r1 r2 HLE
        go_wp2_with fail
        go_ret2
        exact ⟨ret_two (by rw [RR.out.1]) (by rw [RR.out.2]), b1⟩
    · have hlt' : ¬ (k : Int) < (n : Int) := by omega
      have he : k = n := by omega
      obtain ⟨r1, r2⟩ := HA2.out he
      have RR : Hid (M = k ∧ R = 0) := ⟨r1, r2⟩
      have he' : (k : Int) = (n : Int) := by omega
      clear HA2 HB2 HS HC HG HZ r1 r2 he
      go_wp2_with fail
      go_ret2
      exact ⟨ret_two (by have := RR.out.1; omega) (by rw [RR.out.2]), b1⟩
end Go.Proofs.Ytbhejjpkmnldhaa.tu
