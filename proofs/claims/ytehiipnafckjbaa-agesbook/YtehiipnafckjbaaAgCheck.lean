/- What package ages' Check answers. -/
import Derived.Test.YtehiipnafckjbaaAgIdx
namespace Go.Proofs.Ytehiipnafckjbaa.agc
open Go.ChangeShapes Go.WideShapes Go.ChangeAt Go.RowKit Go.BigFrame
open Go.Proofs.Ytehiipnafckjbaa Go.Proofs.Ytehiipnafckjbaa.am Go.Proofs.Ytehiipnafckjbaa.ag Go.Proofs.Ytehiipnafckjbaa.ai Go.Proofs.Ytehiipnafckjbaa.boxes Go.Proofs.Ytehiipnafckjbaa.rwr
open Go.Proofs.Ytehiipnafckjbaa.rws (Knd Own)

/-- which rooms are marked, once i stays were looked at -/
def TA (l : List Sy) (i : Nat) (T : Array Value) : Prop := T.size = 64 ∧ ∀ k : Nat, k < 64 → T[k]? = some (.bool (tk (l.take i) k))
abbrev Z64 : Array Value := #[.bool false, .bool false, .bool false, .bool false, .bool false, .bool false, .bool false, .bool false, .bool false, .bool false, .bool false, .bool false, .bool false, .bool false, .bool false, .bool false, .bool false, .bool false, .bool false, .bool false, .bool false, .bool false, .bool false, .bool false, .bool false, .bool false, .bool false, .bool false, .bool false, .bool false, .bool false, .bool false, .bool false, .bool false, .bool false, .bool false, .bool false, .bool false, .bool false, .bool false, .bool false, .bool false, .bool false, .bool false, .bool false, .bool false, .bool false, .bool false, .bool false, .bool false, .bool false, .bool false, .bool false, .bool false, .bool false, .bool false, .bool false, .bool false, .bool false, .bool false, .bool false, .bool false, .bool false, .bool false]
theorem z64 : Z64 = Array.replicate 64 (.bool false) := rfl
theorem ta_zero (l : List Sy) : TA l 0 Z64 := by
  refine ⟨rfl, fun k hk => ?_⟩
  rw [z64, Array.getElem?_replicate, if_pos hk]; rfl
theorem take_one {l : List Sy} {i : Nat} (h : i < l.length) : l.take (i + 1) = l.take i ++ [ax l i] := by
  rw [List.take_add_one, ax_get h]; rfl
theorem ta_step {l : List Sy} {i p : Nat} {T : Array Value} (h : TA l i T) (hi : i < l.length) (hp : (ax l i).r = (p : Int)) : TA l (i + 1) (T.setIfInBounds p (.bool true)) := by
  refine ⟨by rw [Array.size_setIfInBounds]; exact h.1, fun k hk => ?_⟩
  rw [Array.getElem?_setIfInBounds, take_one hi, tk_append, h.1]
  have e1 : tk [ax l i] (k : Int) = decide (p = k) := by
    unfold tk
    rw [List.any_cons, hp, Bool.eq_iff_iff]
    simp
    omega
  rw [e1]
  by_cases e : p = k
  · rw [if_pos e, if_pos (by omega), decide_eq_true e, Bool.or_true]
  · rw [if_neg e, h.2 k hk, decide_eq_false e, Bool.or_false]
theorem ta_iff {l : List Sy} {i : Nat} (hi : i ≤ l.length) {r : Int} : tk (l.take i) r = true ↔ ∃ j, j < i ∧ (ax l j).r = r := by
  have key : ∀ j, j < i → ax (l.take i) j = ax l j := fun j hj => by
    rw [ax_elem (by rw [List.length_take]; omega), ax_elem (by omega), List.getElem_take]
  rw [tk_ax]
  constructor
  · rintro ⟨q, hq, e⟩
    rw [List.length_take] at hq
    exact ⟨q, by omega, by rw [← key q (by omega)]; exact e⟩
  · rintro ⟨j, hj, e⟩
    exact ⟨j, by rw [List.length_take]; omega, by rw [key j hj]; exact e⟩
theorem ixa (b : Nat) (p : Nat) (u : World) (h1 : p < 64) : (Instr.indexAt 53 (.pointer (some ⟨b, 0, none⟩)) (.int .i64 (p : Int))).run Try.prog u = .ok (.pointer (some ⟨b, p, none⟩)) u := by
  simp [Instr.indexAt, run_underlying Try.underlying53, Instr.sureAddr, asIntOf, h1, go_sem, Addr.add]
  all_goals try omega
set_option maxRecDepth 20000 in
set_option maxHeartbeats 4000000 in
theorem check_any (n : Int) (v : Value) (l : List Sy) (w : World) (h : Rd SK w v l) : Calls Try.prog 11 #[.agg (AC n v)] w fun e w' => e = .returned (.int .i64 (aerr n l)) ∧ Below w.heap.size w w' := by
  have F0 := Blk.new w (AC n v) 24
  have b0 := (Below.refl w.heap.size w).alloc (Nat.le_refl _) (.cells (AC n v) 24)
  have r0 := h.below b0
  have CR := fun u => right_any n u
  have c0 := F0.cell
  cases hb : rs n
  · have HE : Hid (aerr n l = 1) := aerr_arg hb
    obtain ⟨sa, sc, rfl⟩ := h.form
    rw [hb] at CR
    clear h r0 F0 hb
    generalize aerr n l = E at *
    generalize l.length = m at *
    go_enter Try.func11, Try.ntmps11
    go_wp2_with fail
    refine (CR _).mono ?_
    rintro e w1 ⟨rfl, rfl⟩
    go_wp2_with fail
    go_ret
    exact ⟨ret_int (by rw [HE.out]), b0⟩
  · have hn := rs_iff.1 hb
    rw [hb] at CR
    have HI : Hid (Ok n l ↔ ∀ i, i < l.length → Oka n l i) := ok_iff
    have HE : Hid ((Ok n l → aerr n l = 0) ∧ (¬ Ok n l → aerr n l = 4)) := ⟨aerr_ok hb, aerr_form hb⟩
    have HG : Hid (∀ i, i < l.length → l[i]? = some (ax l i)) := fun i hi => ax_get hi
    have HS : Hid (∀ i, (∀ j, j < i → Oka n l j) → (Oka n l i ↔ 0 ≤ (ax l i).r ∧ (ax l i).r < n ∧ (∀ j, j < i → (ax l j).r ≠ (ax l i).r) ∧ (0 < i → (ax l (i - 1)).a ≤ (ax l i).a))) := fun i h => oka_step h
    have HT : Hid (∀ i r, i ≤ l.length → (tk (l.take i) r = true ↔ ∃ j, j < i ∧ (ax l j).r = r)) := fun i r hi => ta_iff hi
    have HT2 : Hid (∀ i p T, TA l i T → i < l.length → (ax l i).r = ((p : Nat) : Int) → TA l (i + 1) (T.setIfInBounds p (.bool true))) := fun i p T h1 h2 h3 => ta_step h1 h2 h3
    have HZ : Hid (TA l 0 Z64) := ta_zero l
    have hml := rd_len h
    obtain ⟨sa, sc, rfl⟩ := h.form
    have hle : l.length ≤ sc := (rd_cap h).2
    have HX : Hid (∀ u, Below w.heap.size w u → 0 < l.length → ∃ b off, sa = some ⟨b, off, none⟩ ∧ b < u.heap.size ∧ ∀ j x, l[j]? = some x → ∀ i, i < SK.k → u.cell? ⟨b, off + j * SK.k + i, none⟩ = (SK.enc x)[i]?) := fun u hu hp => rd_spot (h.below hu) hp
    clear h r0 hb
    have G0 := F0.alloc (.cells Z64 53)
    have A0 := Blk.newAt (w.alloc (.cells (AC n (.slice sa l.length sc)) 24)) Z64 53 (b := w.heap.size + 1) (by simp)
    have d0 := b0.alloc b0.size (.cells Z64 53)
    obtain ⟨V, HV⟩ : ∃ V, Hid ((w.alloc (.cells (AC n (.slice sa l.length sc)) 24)).alloc (.cells Z64 53) = V) := ⟨_, rfl⟩
    rw [HV.out] at G0 A0 d0
    clear F0 b0
    generalize aerr n l = E at *
    generalize hm : l.length = m at *
    have HM : Hid (l.length = m) := hm
    clear hm
    have cV := G0.cell
    go_enter Try.func11, Try.ntmps11
    go_wp2_with fail
    refine (CR _).mono ?_
    rintro e w1 ⟨rfl, rfl⟩
    go_upto_region 4 with fail
    rw [HV.out]
    go_wp2_with fail
    clear c0 cV CR
    go_loopw [13] (fun s13 wr => ∃ (i : Nat) (T : Array Value), s13 = .int .i64 (i : Int) ∧ i ≤ m ∧ Hid (∀ j, j < i → Oka n l j) ∧ Hid (TA l i T) ∧ Blk wr w.heap.size (AC n (.slice sa m sc)) 24 ∧ Blk wr (w.heap.size + 1) T 53 ∧ Below w.heap.size w wr) (fun s _ => m - (intOf s).toNat)
    case atStart => exact ⟨0, Z64, rfl, Nat.zero_le _, fun j hj => absurd hj (by omega), HZ.out, G0, A0, d0⟩
    case round =>
      clear G0 A0 d0 HZ
      obtain ⟨i, T, rfl, hi, HJ, HA, G1, A1, bel⟩ := hrel
      by_cases hlt : i < m
      · have hlt' : (i : Int) < (m : Int) := by omega
        have gi := HG.out i hlt
        obtain ⟨b, off, rfl, hb, hx⟩ := HX.out wr bel (by omega)
        have hS := HS.out i HJ.out
        have HN : Hid (¬ Oka n l i → E = 4) := fun hn => HE.out.2 fun hr => hn (HI.out.1 hr i hlt)
        have HY : Hid (Oka n l i → ∀ j, j < i + 1 → Oka n l j) := fun hi j hj => by
          by_cases e : j = i
          · rw [e]; exact hi
          · exact HJ.out j (by omega)
        have HT' : Hid (∀ r, tk (l.take i) r = true ↔ ∃ j, j < i ∧ (ax l j).r = r) := fun r => HT.out i r (by omega)
        have HT2' : Hid (∀ p : Nat, (ax l i).r = (p : Int) → TA l (i + 1) (T.setIfInBounds p (.bool true))) := fun p h3 => HT2.out i p T HA.out hlt h3
        have HP : Hid (0 < i → l[i - 1]? = some (ax l (i - 1))) := fun h => HG.out (i - 1) (by omega)
        generalize ax l (i - 1) = pv at *
        obtain ⟨⟨sr, sv⟩, hs⟩ : ∃ s, ax l i = s := ⟨_, rfl⟩
        rw [hs] at gi hS HT2'
        have HS1 : Hid (Oka n l i ↔ 0 ≤ sr ∧ sr < n ∧ (∀ j, j < i → (ax l j).r ≠ sr) ∧ (0 < i → pv.a ≤ sv)) := hS
        obtain ⟨A, HAA⟩ : ∃ A, Hid (wr.alloc (.cells #[.int .i64 sr, .int .i64 sv] 41) = A) := ⟨_, rfl⟩
        have S2 := Blk.new wr #[.int .i64 sr, .int .i64 sv] 41
        have a2 := (Below.refl wr.heap.size wr).alloc (Nat.le_refl _) (.cells #[.int .i64 sr, .int .i64 sv] 41)
        have G2 := G1.alloc (.cells #[.int .i64 sr, .int .i64 sv] 41)
        have A2 := A1.alloc (.cells #[.int .i64 sr, .int .i64 sv] 41)
        have b2 := bel.alloc bel.size (.cells #[.int .i64 sr, .int .i64 sv] 41)
        have hx2 : ∀ j x, l[j]? = some x → ∀ i, i < SK.k → (wr.alloc (.cells #[.int .i64 sr, .int .i64 sv] 41)).cell? ⟨b, off + j * SK.k + i, none⟩ = (SK.enc x)[i]? := fun j x hj i hi => (a2.cell (p := ⟨b, off + j * SK.k + i, none⟩) hb).trans (hx j x hj i hi)
        rw [HAA.out] at S2 G2 A2 b2 hx2
        have nn := ab.ne A
        have caS := ab.cells S2
        have caG := ab.cells G2
        clear hS hs HJ HS HT HT2 HG HX a2 HI
        by_cases h1 : sr < 0
        · have HE4 : Hid (E = 4) := HN.out fun o => by have := (HS1.out.1 o).1; omega
          have hd1 : decide (sr < 0) = true := decide_eq_true h1
          clear HN HY HS1 HT' HT2' HP HA A1 A2 HE G1 G2 hx2 bel
          go_upto_region 7 with (refine rd_load SK _ rfl _ rfl b off l hx i _ rfl rfl _ gi #[.int .i64 sr, .int .i64 sv] rfl _ Try.underlying41 rfl ?_)
          rw [HAA.out]
          refine ab.region (by kernel_rfl) (by kernel_rfl) ?_
          repeat (go_big_quiet_step (fail))
          refine wpQuiet_nil ?_
          intro _ hx
          obtain ⟨x, rfl⟩ := hx
          have b3 := b2.trans (Below.mono x.h b2.size)
          go_wp2_with fail
          go_ret
          exact ⟨ret_int (by rw [HE4.out]), b3⟩
        obtain ⟨p, rfl⟩ : ∃ p : Nat, sr = (p : Int) := ⟨sr.toNat, by omega⟩
        have hd1 : decide ((p : Int) < 0) = false := decide_eq_false h1
        by_cases h2 : n ≤ (p : Int)
        · have HE4 : Hid (E = 4) := HN.out fun o => by have := (HS1.out.1 o).2.1; omega
          have hd2 : decide (n ≤ (p : Int)) = true := decide_eq_true h2
          clear HN HY HS1 HT' HT2' HP HA A1 A2 HE G1 G2 hx2 bel h1
          go_upto_region 7 with (refine rd_load SK _ rfl _ rfl b off l hx i _ rfl rfl _ gi #[.int .i64 (p : Int), .int .i64 sv] rfl _ Try.underlying41 rfl ?_)
          rw [HAA.out]
          refine ab.region (by kernel_rfl) (by kernel_rfl) ?_
          repeat (go_big_quiet_step (fail))
          refine wpQuiet_nil ?_
          intro _ hx
          obtain ⟨x, rfl⟩ := hx
          have b3 := b2.trans (Below.mono x.h b2.size)
          go_wp2_with fail
          go_ret
          exact ⟨ret_int (by rw [HE4.out]), b3⟩
        have hd2 : decide (n ≤ (p : Int)) = false := decide_eq_false h2
        have hp64 : p < 64 := by omega
        have ixp := fun u => ixa (w.heap.size + 1) p u hp64
        have caT := ab.cell (A2.cell p) A2.lt
        rw [HA.out.2 p hp64] at caT
        cases h3 : tk (l.take i) (p : Int)
        · have HM3 : Hid (∀ j, j < i → (ax l j).r ≠ (p : Int)) := fun j hj e => by
            rw [(HT'.out p).2 ⟨j, hj, e⟩] at h3; cases h3
          have HT3 : Hid (TA l (i + 1) (T.setIfInBounds p (.bool true))) := HT2'.out p rfl
          rw [h3] at caT
          clear h3 HT' HT2' HA
          by_cases h4 : 0 < i
          · obtain ⟨q, hq⟩ : ∃ q, i = q + 1 := ⟨i - 1, by omega⟩
            have gq := HP.out h4
            rw [hq, Nat.add_sub_cancel] at gq
            have caP := ab.cell (hx2 q pv gq 1 (by decide)) (Nat.lt_of_lt_of_le hb (by rw [← HAA.out]; simp))
            have hd4 : decide (0 < i) = true := decide_eq_true h4
            have hwr : IntKind.i64.wrap ((i : Int) - 1) = (q : Int) := by rw [IntKind.wrap_i64]; omega
            have hqm : (q : Int) < (m : Int) := by omega
            have HQ : Hid (i = q + 1) := hq
            have hsk : SK.k = 2 := rfl
            have hse : (SK.enc pv)[1]? = some (.int .i64 pv.a) := rfl
            rw [hsk, hse] at caP
            generalize pv.a = pa at *
            clear HP gq hx2 hq h4 hsk hse
            by_cases h5 : sv < pa
            · have HE4 : Hid (E = 4) := HN.out fun o => by have := (HS1.out.1 o).2.2.2 (by rw [HQ.out]; omega); omega
              have hd5 : decide (sv < pa) = true := decide_eq_true h5
              clear HN HY HS1 A1 A2 HE G1 G2 bel h1
              go_upto_region 7 with (refine rd_load SK _ rfl _ rfl b off l hx i _ rfl rfl _ gi #[.int .i64 (p : Int), .int .i64 sv] rfl _ Try.underlying41 rfl ?_)
              rw [HAA.out]
              refine ab.region (by kernel_rfl) (by kernel_rfl) ?_
              repeat (go_big_quiet_step (fail))
              refine wpQuiet_nil ?_
              intro _ hx
              obtain ⟨x, rfl⟩ := hx
              have b3 := b2.trans (Below.mono x.h b2.size)
              go_wp2_with fail
              go_ret
              exact ⟨ret_int (by rw [HE4.out]), b3⟩
            · have HY' : Hid (∀ j, j < i + 1 → Oka n l j) := HY.out (HS1.out.2 ⟨by omega, by omega, HM3.out, fun _ => by omega⟩)
              have hd5 : decide (sv < pa) = false := decide_eq_false h5
              clear HN HY HS1 A1 HE G1 bel h1 HM3
              go_upto_region 7 with (refine rd_load SK _ rfl _ rfl b off l hx i _ rfl rfl _ gi #[.int .i64 (p : Int), .int .i64 sv] rfl _ Try.underlying41 rfl ?_)
              rw [HAA.out]
              refine ab.region (by kernel_rfl) (by kernel_rfl) ?_
              repeat (go_big_quiet_step (fail))
              refine wpQuiet_nil ?_
              intro _ hx
              obtain ⟨x, rfl⟩ := hx
              have G3 := G2.below x.h G2.lt
              have A3 := A2.below x.h A2.lt
              have S3 := S2.below x.h S2.lt
              have b3 := b2.trans (Below.mono x.h b2.size)
              have cT := caT x
              clear G2 A2 S2 b2 caS caG caT nn
              generalize x.W = W3 at *
              have cS := S3.cell
              have fT := A3.free p
              go_wp2_with fail
              go_roundw
              case rel => exact ⟨i + 1, T.setIfInBounds p (.bool true), by go_num, by omega, HY', HT3, (but_setCell _ _ _ _).blk G3 (by omega), A3.setCell _ _, (but_setCell _ _ _ _).below b3 (by omega)⟩
              case measure => simp [intOf]; omega
          · have HY' : Hid (∀ j, j < i + 1 → Oka n l j) := HY.out (HS1.out.2 ⟨by omega, by omega, HM3.out, fun h => absurd h h4⟩)
            have hd4 : decide (0 < i) = false := decide_eq_false h4
            clear HN HY HS1 A1 HE G1 bel h1 HM3 HP hx2
            go_upto_region 7 with (refine rd_load SK _ rfl _ rfl b off l hx i _ rfl rfl _ gi #[.int .i64 (p : Int), .int .i64 sv] rfl _ Try.underlying41 rfl ?_)
            rw [HAA.out]
            refine ab.region (by kernel_rfl) (by kernel_rfl) ?_
            repeat (go_big_quiet_step (fail))
            refine wpQuiet_nil ?_
            intro _ hx
            obtain ⟨x, rfl⟩ := hx
            have G3 := G2.below x.h G2.lt
            have A3 := A2.below x.h A2.lt
            have S3 := S2.below x.h S2.lt
            have b3 := b2.trans (Below.mono x.h b2.size)
            have cT := caT x
            clear G2 A2 S2 b2 caS caG caT nn
            generalize x.W = W3 at *
            have cS := S3.cell
            have fT := A3.free p
            go_wp2_with fail
            go_roundw
            case rel => exact ⟨i + 1, T.setIfInBounds p (.bool true), by go_num, by omega, HY', HT3, (but_setCell _ _ _ _).blk G3 (by omega), A3.setCell _ _, (but_setCell _ _ _ _).below b3 (by omega)⟩
            case measure => simp [intOf]; omega
        · have HE4 : Hid (E = 4) := HN.out fun o => by
            obtain ⟨j, hj, e⟩ := (HT'.out p).1 h3
            exact (HS1.out.1 o).2.2.1 j hj e
          rw [h3] at caT
          clear HN HY HS1 HT' HT2' HP HA A1 A2 HE G1 G2 hx2 bel h1 h3
          go_upto_region 7 with (refine rd_load SK _ rfl _ rfl b off l hx i _ rfl rfl _ gi #[.int .i64 (p : Int), .int .i64 sv] rfl _ Try.underlying41 rfl ?_)
          rw [HAA.out]
          refine ab.region (by kernel_rfl) (by kernel_rfl) ?_
          repeat (go_big_quiet_step (fail))
          refine wpQuiet_nil ?_
          intro _ hx
          obtain ⟨x, rfl⟩ := hx
          have b3 := b2.trans (Below.mono x.h b2.size)
          go_wp2_with fail
          go_ret
          exact ⟨ret_int (by rw [HE4.out]), b3⟩
      · have hlt' : ¬ (i : Int) < (m : Int) := by omega
        have HE0 : Hid (E = 0) := HE.out.1 (HI.out.2 fun j hj => HJ.out j (by omega))
        clear HE HI HJ HS HT HT2 HG HX HA G1 A1
        go_wp2_with fail
        go_ret
        exact ⟨ret_int (by rw [HE0.out]), bel⟩
end Go.Proofs.Ytehiipnafckjbaa.agc
