/- What frag.Check answers. -/
import Derived.Test.YtlbpapngcgnepaaFragRight
namespace Go.Proofs.Ytlbpapngcgnepaa.frc
open Go.ChangeShapes Go.WideShapes Go.ChangeAt Go.RowKit Go.BigFrame
open Go.Proofs.Ytlbpapngcgnepaa Go.Proofs.Ytlbpapngcgnepaa.ipb Go.Proofs.Ytlbpapngcgnepaa.boxes Go.Proofs.Ytlbpapngcgnepaa.ipr Go.Proofs.Ytlbpapngcgnepaa.frb Go.Proofs.Ytlbpapngcgnepaa.frs Go.Proofs.Ytlbpapngcgnepaa.frp Go.Proofs.Ytlbpapngcgnepaa.frx Go.Proofs.Ytlbpapngcgnepaa.frr
open Go.Proofs.Ytlbpapngcgnepaa.rws (Own Knd)

theorem fnd_neg (n : Nm) : ∀ (l : List Hd) (i : Nat), fnd n l i < 0 ↔ l.any (fun y => y.nm.eq n) = false
  | [], i => by simp [fnd]
  | y :: r, i => by
    simp only [fnd, List.any_cons]
    by_cases h : y.nm.eq n = true
    · rw [if_pos h, h]; simp
    · rw [if_neg h, fnd_neg n r (i + 1)]
      simp at h
      rw [h]; simp
/-- what is right of the heap at j -/
def AtH (L : List Hp) (j : Nat) : Prop := ∀ x, L[j]? = some x → x.ok = true ∧ fnd x.h.nm ((L.take j).map (·.h)) 0 < 0
theorem okFrom_iff : ∀ (L A : List Hp), okFrom A L = true ↔ ∀ (j : Nat) x, L[j]? = some x → x.ok = true ∧ fnd x.h.nm ((A ++ L.take j).map (·.h)) 0 < 0
  | [], A => by simp [okFrom]
  | y :: r, A => by
    simp only [okFrom, Bool.and_eq_true]
    rw [okFrom_iff r (A ++ [y])]
    constructor
    · rintro ⟨⟨h1, h2⟩, h3⟩ j x hj
      cases j with
      | zero =>
        simp at hj; subst hj
        refine ⟨h2, ?_⟩
        rw [fnd_neg]
        simpa [sameH, Nm.eq, Hd.nm] using h1
      | succ j =>
        have := h3 j x (by simpa using hj)
        refine ⟨this.1, ?_⟩
        have e : (A ++ (y :: r).take (j + 1)) = A ++ [y] ++ r.take j := by simp
        rw [e]; exact this.2
    · intro h
      have h0 := h 0 y rfl
      refine ⟨⟨?_, h0.1⟩, fun j x hj => ?_⟩
      · have := h0.2
        rw [fnd_neg] at this
        simpa [sameH, Nm.eq, Hd.nm] using this
      · have := h (j + 1) x (by simpa using hj)
        have e : (A ++ (y :: r).take (j + 1)) = A ++ [y] ++ r.take j := by simp
        rw [e] at this
        exact this
theorem ok_all (L : List Hp) : okFrom [] L = true ↔ ∀ j, j < L.length → AtH L j := by
  rw [okFrom_iff]
  constructor
  · intro h j _ x hx
    have := h j x hx
    simpa using this
  · intro h j x hx
    have := h j (List.getElem?_eq_some_iff.1 hx).1 x hx
    simpa using this
theorem sn_of {x : Hv} {ps : List Pt} {w : World} (h : Rd TK w x.sl ps) : x.sn = ps.length := by
  obtain ⟨sa, sc, he, _⟩ := h
  simp only [Hv.sl, Value.slice.injEq] at he
  exact he.2.1
theorem Rd.take {α : Type} {K : Knd α} {w : World} {sa : Option Addr} {n sc : Nat} {l : List α} (h : Rd K w (.slice sa n sc) l) (i : Nat) (hi : i ≤ l.length) : Rd K w (.slice sa i sc) (l.take i) := by
  obtain ⟨sa', sc', he, hm, hn, hc⟩ := h
  simp only [Value.slice.injEq] at he
  obtain ⟨rfl, rfl, rfl⟩ := he
  have hl : (l.take i).length = i := by simp; omega
  refine ⟨sa, sc, by rw [hl], by omega, ⟨by have := hn.le; omega, hn.nil⟩, fun hp => ?_⟩
  obtain ⟨b, off, rfl, hb, hx⟩ := hc (by omega)
  refine ⟨b, off, rfl, hb, fun j x hj k hk => hx j x ?_ k hk⟩
  rw [List.getElem?_take] at hj
  split at hj
  · exact hj
  · cases hj
theorem slice_to (n i sc b off : Nat) (hi : i ≤ sc) (w : World) : (Instr.slice 31 (.slice (some ⟨b, off, none⟩) n sc) none (some (.int .i64 (i : Int))) none).run Try.prog w = .ok (.slice (some ⟨b, off, none⟩) i sc) w := by
  have u := Try.underlying31
  have hi' : (i : Int) ≤ (sc : Int) := by omega
  go_simp
set_option maxRecDepth 20000 in
set_option maxHeartbeats 8000000 in
theorem check_some (b off sc n : Nat) (L : List Hp) (X : List Hv) (w : World) (hn : X.length = n) (hln : L.length = n) (hn0 : 0 < n) (hm : n ≤ 9223372036854775807) (hcap : n ≤ sc) (hb : b < w.heap.size) (hx : ∀ (j : Nat) x, X[j]? = some x → ∀ i, i < 8 → w.cell? ⟨b, off + j * 8 + i, none⟩ = x.cells[i]?)
    (hXL : ∀ (j : Nat) x (h : Hp), X[j]? = some x → L[j]? = some h → x.h = h.h ∧ Rd TK w x.sl h.ps) (hsz : ∀ x ∈ L, ∀ q ∈ x.ps, q.d.size ≤ 9223372036854775807) :
    Calls Try.prog 14 #[.slice (some ⟨b, off, none⟩) n sc] w fun e w' => e = .returned (.int .i64 (perr L)) ∧ Below w.heap.size w w' := by
  have HR : Hid (Rd HK w (.slice (some ⟨b, off, none⟩) n sc) X) := ⟨_, _, by rw [hn], by unfold maxLen; omega, Fm.some (by omega), fun _ => ⟨b, off, rfl, hb, hx⟩⟩
  obtain ⟨R, hR⟩ : ∃ R, Hid (perr L = R) := ⟨_, rfl⟩
  rw [hR.out]
  by_cases h16 : 16 < n
  · have e : R = 2 := by
      rw [← hR.out]; unfold perr bigP
      rw [decide_eq_true (show 16 < L.length by omega)]; rfl
    subst e
    have h16' : (16 : Int) < (n : Int) := by omega
    go_enter Try.func14, Try.ntmps14
    go_wp2_with fail
    go_ret
    exact ⟨rfl, Below.refl _ _⟩
  · have h16' : ¬ (16 : Int) < (n : Int) := by omega
    have hel : ∀ (i : Nat), i < n → ∃ x h, X[i]? = some x ∧ L[i]? = some h ∧ x.h = h.h ∧ Rd TK w x.sl h.ps := fun i hi => by
      have e1 : X[i]? = some (X[i]'(by omega)) := List.getElem?_eq_getElem (by omega)
      have e2 : L[i]? = some (L[i]'(by omega)) := List.getElem?_eq_getElem (by omega)
      exact ⟨_, _, e1, e2, hXL i _ _ e1 e2⟩
    go_enter Try.func14, Try.ntmps14
    go_wp2_with fail
    clear h16'
    go_loopw [12] (fun s12 wr => ∃ i : Nat, s12 = .int .i64 (i : Int) ∧ i ≤ n ∧ Hid (∀ (j : Nat) h, j < i → L[j]? = some h → h.ps.length ≤ 64) ∧ Below w.heap.size w wr) (fun i _ => n - (intOf i).toNat)
    case atStart => exact ⟨0, rfl, Nat.zero_le _, fun j _ hj => absurd hj (Nat.not_lt_zero _), Below.refl _ _⟩
    case round =>
      obtain ⟨i, rfl, hi, HA, bel⟩ := hrel
      have hB := bel.size
      by_cases hlt : i < n
      · obtain ⟨x, h, ex, eh, exh, rx⟩ := hel i hlt
        have hlt' : (i : Int) < (n : Int) := by omega
        have hx1 : ∀ (j : Nat) y, X[j]? = some y → ∀ i, i < HK.k → wr.cell? ⟨b, off + j * HK.k + i, none⟩ = (HK.enc y)[i]? := fun j y hj i hi => (bel.cell (p := ⟨b, off + j * HK.k + i, none⟩) hb).trans (hx j y hj i hi)
        have sn := sn_of rx
        have bel2 := bel.alloc hB (.cells x.cells 46)
        have hsn : x.sn ≤ 9223372036854775807 := by
          obtain ⟨sa, sc', he, hm', _⟩ := rx
          rw [sn]; unfold maxLen at hm'; omega
        by_cases h64 : 64 < h.ps.length
        · have e : R = 2 := by
            rw [← hR.out]; unfold perr bigP
            have : (L.any fun x => decide (64 < x.ps.length)) = true := List.any_eq_true.2 ⟨h, List.mem_of_getElem? eh, by simpa using h64⟩
            rw [this]; simp
          subst e
          have h64' : (64 : Int) < (x.sn : Int) := by omega
          obtain ⟨⟨h0, h1, h2, h3, h4, h5, h6⟩, sa, snn, scc⟩ := x
          simp only at h64' hsn
          clear sn rx exh hXL hel HA HR hsz
          go_wp2_with (refine rd_load HK _ rfl _ rfl b off X hx1 i _ rfl rfl _ ex (Hv.cells ⟨⟨h0, h1, h2, h3, h4, h5, h6⟩, sa, snn, scc⟩) rfl _ Try.underlying46 rfl ?_)
          go_ret
          exact ⟨rfl, bel2⟩
        · have h64' : ¬ (64 : Int) < (x.sn : Int) := by omega
          have HA' : Hid (∀ (j : Nat) h, j < i + 1 → L[j]? = some h → h.ps.length ≤ 64) := fun j h' hj e => by
            by_cases hji : j < i
            · exact HA.out j h' hji e
            · have : j = i := by omega
              subst this
              rw [eh] at e
              obtain rfl := Option.some.inj e
              omega
          obtain ⟨⟨h0, h1, h2, h3, h4, h5, h6⟩, sa, snn, scc⟩ := x
          simp only at h64' hsn
          clear sn rx exh hXL hel HA HR hsz
          go_wp2_with (refine rd_load HK _ rfl _ rfl b off X hx1 i _ rfl rfl _ ex (Hv.cells ⟨⟨h0, h1, h2, h3, h4, h5, h6⟩, sa, snn, scc⟩) rfl _ Try.underlying46 rfl ?_)
          go_roundw
          case rel => exact ⟨i + 1, by simp, by omega, HA', bel2⟩
          case measure => simp [intOf]; omega
      · have hin : i = n := by omega
        have hlt' : ¬ (i : Int) < (n : Int) := by omega
        have big : Hid (bigP L = false) := by
          show bigP L = false
          unfold bigP
          rw [decide_eq_false (show ¬ 16 < L.length by omega), Bool.false_or]
          rw [List.any_eq_false]
          intro x hxm
          obtain ⟨j, hj⟩ := List.getElem?_of_mem hxm
          have := HA.out j x (by have := (List.getElem?_eq_some_iff.1 hj).1; omega) hj
          simp; omega
        clear HA
        go_wp2_with fail
        try rw [show decide ((i : Int) < (n : Int)) = false from decide_eq_false (by omega)]
        clear hlt' hlt hin hi
        generalize wr = V at *
        go_loopw [23] (fun s23 wr => ∃ i : Nat, s23 = .int .i64 (i : Int) ∧ i ≤ n ∧ Hid (∀ j, j < i → AtH L j) ∧ Below V.heap.size V wr) (fun i _ => n - (intOf i).toNat)
        case atStart => exact ⟨0, rfl, Nat.zero_le _, fun j hj => absurd hj (Nat.not_lt_zero _), Below.refl _ _⟩
        case round =>
          obtain ⟨i, rfl, hi, HA, bel0⟩ := hrel
          have belw := bel.trans (bel0.mono hB)
          have hBw := belw.size
          by_cases hlt : i < n
          · obtain ⟨x, h, ex, eh, exh, rx⟩ := hel i hlt
            have hlt' : (i : Int) < (n : Int) := by omega
            have hx1 : ∀ (j : Nat) y, X[j]? = some y → ∀ i, i < HK.k → wr.cell? ⟨b, off + j * HK.k + i, none⟩ = (HK.enc y)[i]? := fun j y hj i hi => (belw.cell (p := ⟨b, off + j * HK.k + i, none⟩) hb).trans (hx j y hj i hi)
            have bel2 := belw.alloc hBw (.cells x.cells 46)
            have bel3 := bel0.alloc bel0.size (.cells x.cells 46)
            have B1 := Blk.new wr x.cells 46
            have RX := Rd.take (HR.out.below bel2) i (by omega)
            have RP := rx.below bel2
            have hmap : (X.take i).map (·.h) = (L.take i).map (·.h) := by
              apply List.ext_getElem?
              intro j
              rw [List.getElem?_map, List.getElem?_map, List.getElem?_take, List.getElem?_take]
              by_cases hji : j < i
              · rw [if_pos hji, if_pos hji]
                obtain ⟨y, z, e1, e2, e3, _⟩ := hel j (by omega)
                rw [e1, e2]; simp [e3]
              · rw [if_neg hji, if_neg hji]; rfl
            have hex : Hid (x.h = h.h) := exh
            clear exh
            have hic : i ≤ sc := by omega
            have hic' : (i : Int) ≤ (sc : Int) := by omega
            go_upto_region 12 with (refine rd_load HK _ rfl _ rfl b off X hx1 i _ rfl rfl x ex x.cells rfl _ Try.underlying46 rfl ?_)
            generalize wr.alloc (.cells x.cells 46) = U at *
            have nn := ab.ne U
            have cx := ab.cells B1
            have hsl := fun y : cls.In (ab.Ab U) => slice_to n i sc b off hic y.W
            have CN := fun u => nameH_any x u
            have CF := fun y : cls.In (ab.Ab U) => find_any (.slice (some ⟨b, off, none⟩) i sc) (X.take i) x.h.nm y.W (RX.below y.h)
            have CH := fun y : cls.In (ab.Ab U) => heap_any x h.ps y.W (RP.below y.h) (hsz h (List.mem_of_getElem? eh))
            rw [hmap, hex.out] at CF
            rw [hex.out] at CH CN
            have hHp : (⟨h.h, h.ps⟩ : Hp) = h := rfl
            rw [hHp] at CH
            obtain ⟨F, hF⟩ : ∃ F, Hid (fnd h.h.nm ((L.take i).map (·.h)) 0 = F) := ⟨_, rfl⟩
            obtain ⟨P, hP⟩ : ∃ P, Hid (h.ok = P) := ⟨_, rfl⟩
            rw [hF.out] at CF
            rw [hP.out] at CH
            generalize h.h.nm = nm at CN CF
            have hbad : (0 ≤ F ∨ P = false) → R = 4 := fun hor => by
              rw [← hR.out]; unfold perr
              rw [if_neg (by rw [big.out]; decide), if_neg]
              intro hh
              have := (ok_all L).1 hh i (by omega) h eh
              rw [hP.out, hF.out] at this
              rcases hor with ho | ho
              · omega
              · rw [ho] at this; exact absurd this.1 (by decide)
            have HA' : F < 0 → P = true → Hid (∀ j, j < i + 1 → AtH L j) := fun f1 p1 j hj => by
              by_cases hji : j < i
              · exact HA.out j hji
              · have : j = i := by omega
                subst this
                intro y hy
                rw [eh] at hy
                obtain rfl := Option.some.inj hy
                exact ⟨by rw [hP.out]; exact p1, by rw [hF.out]; exact f1⟩
            clear hF hP HA HR hR hmap hx1 hXL hel hsz rx RX RP hex ex eh B1 big
            by_cases hf : 0 ≤ F
            · have e := hbad (Or.inl hf)
              subst e
              have hfd : decide (0 ≤ F) = true := decide_eq_true hf
              clear hbad HA'
              obtain ⟨⟨h0, h1, h2, h3, h4, h5, h6⟩, sa, snn, scc⟩ := x
              obtain ⟨n0, n1, n2, n3⟩ := nm
              refine ab.region (by kernel_rfl) (by kernel_rfl) ?_
              repeat (go_big_quiet_step (first | (go_at_call 35; exact ab.call (CN _)) | (go_at_call 34; exact ab.call (CF _)) | (go_at_call 36; exact ab.call (CH _))))
              refine wpQuiet_nil ?_
              intro _ hy
              obtain ⟨y, rfl⟩ := hy
              go_wp2_with fail
              go_ret
              exact ⟨rfl, bel2.trans (Below.mono y.h bel2.size)⟩
            · have hfd : decide (0 ≤ F) = false := decide_eq_false hf
              cases P with
              | false =>
                have e := hbad (Or.inr rfl)
                subst e
                clear hbad HA'
                obtain ⟨⟨h0, h1, h2, h3, h4, h5, h6⟩, sa, snn, scc⟩ := x
                obtain ⟨n0, n1, n2, n3⟩ := nm
                refine ab.region (by kernel_rfl) (by kernel_rfl) ?_
                repeat (go_big_quiet_step (first | (go_at_call 35; exact ab.call (CN _)) | (go_at_call 34; exact ab.call (CF _)) | (go_at_call 36; exact ab.call (CH _))))
                refine wpQuiet_nil ?_
                intro _ hy
                obtain ⟨y, rfl⟩ := hy
                go_wp2_with fail
                go_ret
                exact ⟨rfl, bel2.trans (Below.mono y.h bel2.size)⟩
              | true =>
                have HA2 := HA' (by omega) rfl
                clear hbad HA'
                obtain ⟨⟨h0, h1, h2, h3, h4, h5, h6⟩, sa, snn, scc⟩ := x
                obtain ⟨n0, n1, n2, n3⟩ := nm
                refine ab.region (by kernel_rfl) (by kernel_rfl) ?_
                repeat (go_big_quiet_step (first | (go_at_call 35; exact ab.call (CN _)) | (go_at_call 34; exact ab.call (CF _)) | (go_at_call 36; exact ab.call (CH _))))
                refine wpQuiet_nil ?_
                intro _ hy
                obtain ⟨y, rfl⟩ := hy
                go_wp2_with fail
                go_roundw
                case rel => exact ⟨i + 1, by simp, by omega, HA2, bel3.trans (Below.mono y.h bel3.size)⟩
                case measure => simp [intOf]; omega
          · have hin : i = n := by omega
            have hlt' : ¬ (i : Int) < (n : Int) := by omega
            have e : R = 0 := by
              rw [← hR.out]; unfold perr
              rw [if_neg (by rw [big.out]; decide), if_pos]
              exact (ok_all L).2 fun j hj => HA.out j (by omega)
            subst e
            clear HA HR hR hel hXL hsz big
            go_wp2_with fail
            go_ret
            exact ⟨rfl, belw⟩
theorem check_none (sa : Option Addr) (sc : Nat) (w : World) : Calls Try.prog 14 #[.slice sa 0 sc] w fun e w' => e = .returned (.int .i64 0) ∧ Below w.heap.size w w' := by
  go_enter Try.func14, Try.ntmps14
  go_wp2_with fail
  go_loopg [12] 0 (fun g s wr => s = .int .i64 0 ∧ Below w.heap.size w wr)
  case atStart => exact ⟨rfl, Below.refl _ _⟩
  case round =>
    obtain ⟨rfl, bel⟩ := hrel
    go_wp2_with fail
    generalize wr = V at *
    go_loopg [23] 0 (fun g s wr => s = .int .i64 0 ∧ Below w.heap.size w wr)
    case atStart => exact ⟨rfl, bel⟩
    case round =>
      obtain ⟨rfl, bel2⟩ := hrel
      go_wp2_with fail
      go_ret
      exact ⟨rfl, bel2⟩
theorem check_any (v : Value) (L : List Hp) (w : World) (h : PRd w v L) (hsz : ∀ x ∈ L, ∀ q ∈ x.ps, q.d.size ≤ 9223372036854775807) :
    Calls Try.prog 14 #[v] w fun e w' => e = .returned (.int .i64 (perr L)) ∧ Below w.heap.size w w' := by
  obtain ⟨X, hr, hl, hX⟩ := h
  obtain ⟨sa, sc, rfl, hm, hn, hc⟩ := hr
  by_cases h0 : 0 < X.length
  · obtain ⟨b, off, rfl, hb, hx⟩ := hc h0
    exact check_some b off sc X.length L X w rfl hl.symm h0 (by unfold maxLen at hm; omega) hn.le hb hx hX hsz
  · have hX0 : X.length = 0 := by omega
    have : L = [] := List.eq_nil_of_length_eq_zero (by omega)
    subst this
    rw [hX0]
    exact check_none sa sc w
end Go.Proofs.Ytlbpapngcgnepaa.frc
