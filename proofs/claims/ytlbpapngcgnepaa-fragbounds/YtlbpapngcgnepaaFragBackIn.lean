/- The walk through custkeep.FragBack. -/
import Derived.Test.YtlbpapngcgnepaaFragBackMath2
import Derived.Test.YtlbpapngcgnepaaFragLives
import Derived.BigQuiet
namespace Go.Proofs.Ytlbpapngcgnepaa.frbi
open Go.ChangeShapes Go.WideShapes Go.ChangeAt Go.RowKit Go.BigFrame
open Go.Proofs.Ytlbpapngcgnepaa Go.Proofs.Ytlbpapngcgnepaa.ipb Go.Proofs.Ytlbpapngcgnepaa.boxes Go.Proofs.Ytlbpapngcgnepaa.ipr Go.Proofs.Ytlbpapngcgnepaa.frb Go.Proofs.Ytlbpapngcgnepaa.frp Go.Proofs.Ytlbpapngcgnepaa.pl Go.Proofs.Ytlbpapngcgnepaa.frt Go.Proofs.Ytlbpapngcgnepaa.frfe Go.Proofs.Ytlbpapngcgnepaa.frm Go.Proofs.Ytlbpapngcgnepaa.frl Go.Proofs.Ytlbpapngcgnepaa.frbm
open Go.Proofs.Ytlbpapngcgnepaa.rws (Own Knd elem_load)

/-- a row of ints that is read -/
def Ro (w : World) (v : Value) (n : Nat) : Prop := ∃ sa cap, v = .slice sa n cap ∧ n ≤ maxLen ∧ (0 < n → ∃ b off, sa = some ⟨b, off, none⟩ ∧ b < w.heap.size ∧ ∀ j, j < n → ∃ x : Int, w.cell? ⟨b, off + j, none⟩ = some (.int .i64 x))
theorem pool_prd {w : World} {B : Nat} {v : Value} {Q : List Hq} (h : Pool w B v Q) : PRd w v (Q.map Hq.p) := by
  refine ⟨Q.map (·.v), Own.rd h.row, by simp, fun j x y hx hy => ?_⟩
  rw [List.getElem?_map, Option.map_eq_some_iff] at hx hy
  obtain ⟨q, hq, rfl⟩ := hx
  obtain ⟨q', hq', rfl⟩ := hy
  rw [hq] at hq'
  obtain rfl := Option.some.inj hq'
  exact ⟨rfl, Own.rd (h.part q (List.mem_of_getElem? hq))⟩
theorem prd_nil (w : World) : PRd w (.slice none 0 0) [] :=
  ⟨[], ⟨none, 0, rfl, Nat.zero_le _, ⟨Nat.le_refl _, fun _ => rfl, fun a e => by cases e⟩, fun hh => by simp at hh⟩, rfl, fun j x y hx _ => by simp at hx⟩
/-- numbers that rise, all of them -/
theorem all_range (N : Nat) : ∀ (I : List Nat) (c : Nat), I.Pairwise (· < ·) → (∀ x ∈ I, c ≤ x ∧ x < N) → (∀ x, c ≤ x → x < N → x ∈ I) → I = List.range' c (N - c)
  | [], c, _, _, h3 => by
    by_cases hc : c < N
    · exact absurd (h3 c (Nat.le_refl _) hc) (by simp)
    · rw [show N - c = 0 by omega]; rfl
  | i :: r, c, h1, h2, h3 => by
    obtain ⟨ha, hb⟩ := List.pairwise_cons.1 h1
    have hi := h2 i (by simp)
    have hci : c = i := by
      rcases List.mem_cons.1 (h3 c (Nat.le_refl _) (by omega)) with e | e
      · exact e
      · have := ha c e; omega
    subst hci
    have := all_range N r (c + 1) hb (fun x hx => ⟨ha x hx, (h2 x (by simp [hx])).2⟩) (fun x hx hN => by
      rcases List.mem_cons.1 (h3 x (by omega) hN) with e | e
      · omega
      · exact e)
    rw [this, show N - c = (N - (c + 1)) + 1 by omega, List.range'_succ]
/-- what Feed tells of a piece, as it is called -/
theorem feed_call {p : Pk} {z : Nat} (h : Env p z) (ha : p.Adr) {I : List Nat} (hI : Ix p z I) {k : Nat} (hk : k < npc z p.d.size) (v : Value) (w : World) (hv : PRd w v (pool p z I)) :
    Calls Try.prog 12 #[v, .agg (pc p z k).cells] w fun e w' => ∃ v' Q', e = .returned (.tuple #[v', .agg (feed (pool p z I) (pc p z k)).q.cells, .bool (feed (pool p z I) (pc p z k)).ok, .int .i64 (feed (pool p z I) (pc p z k)).e]) ∧ Pool w' w.heap.size v' Q' ∧ Q'.map Hq.p = (feed (pool p z I) (pc p z k)).L ∧ Below w.heap.size w w' := by
  have hl := len_le (npc z p.d.size) I 0 hI.s fun x hx => ⟨Nat.zero_le _, hI.b x hx⟩
  have h64 := h.N64
  have hmem : ∀ x ∈ pool p z I, x.ps = I.map (pt p z) := fun x hx => by
    cases I with
    | nil => simp [pool] at hx
    | cons i r => simp [pool] at hx; rw [hx]; rfl
  have hok := Pk.ok (h.ok k hk)
  have hall := hok.all
  refine feed_any v (pool p z I) (pc p z k) w hv (fun x hx q hq => ?_) ?_ (fun x hx => ?_) (by omega) ⟨ha.f0, ha.f1, ha.t0, ha.t1⟩
  · rw [hmem x hx] at hq
    obtain ⟨i, hi, rfl⟩ := List.mem_map.1 hq
    rw [pt_d h i (hI.b i hi)]
    have := h.n1
    omega
  · cases I <;> simp [pool]
  · rw [hmem x hx, List.length_map]; omega
/-- that one may be split, and how -/
theorem env_of {p : Pk} {m : Int} (he : spe p m = 0) (hmo : p.mo = false) (hst : p.st = 0) (hwh : p.wh = false) (h2 : 2 ≤ (spl p m).length) (h64 : (spl p m).length ≤ 64) : Env p (each p m) ∧ spl p m = pcs p (each p m) := by
  have hs := spl_ok he
  have hnl : ¬ (Pk.sz p : Int) ≤ m := by
    intro hle
    have : spl p m = [p] := by unfold spl; rw [if_neg (by simpa using he), if_pos hle]
    rw [this] at h2; simp at h2
  have e : spl p m = pcs p (each p m) := by unfold spl; rw [if_neg (by simpa using he), if_neg hnl]
  have hlen : (pcs p (each p m)).length = npc (each p m) p.d.size := by simp [pcs]
  rw [e, hlen] at h2 h64
  obtain ⟨c1, c2, c3, c4, c5⟩ := hs.cut hnl
  refine ⟨⟨by omega, by unfold each; omega, by rw [hst] at c2; omega, h2, h64, hmo, hst, hwh, fun k hk => ?_⟩, e⟩
  refine (piece_of (i := k) he ?_).ok.err
  rw [e]; unfold pcs
  rw [List.getElem?_map, List.getElem?_range hk]; rfl
set_option maxRecDepth 20000 in
set_option maxHeartbeats 2000000 in
/-- no pieces, or too many -/
theorem out (p : Pk) (m : Int) (vo : Value) (w : World) (h : 20 + p.o.size + p.d.size ≤ 9223372036854775807) (ha : p.Adr)
    (hx : ¬ spe { p with mo := false, st := 0, wh := false } m = 0 ∨ 64 < (spl { p with mo := false, st := 0, wh := false } m).length ∨ (spl { p with mo := false, st := 0, wh := false } m).length < 2) :
    Calls Try.prog 5 #[.agg p.cells, .int .i64 m, vo] w fun e w' => e = .returned (.bool true) ∧ Below w.heap.size w w' := by
  have CS := fun u => frs.split_any { p with mo := false, st := 0, wh := false } m u h ⟨ha.f0, ha.f1, ha.t0, ha.t1⟩
  generalize spe { p with mo := false, st := 0, wh := false } m = er at CS hx
  generalize spl { p with mo := false, st := 0, wh := false } m = L at CS hx
  have F0 := Blk.new w (Pk.cells { p with mo := false, st := 0, wh := false }) 24
  have b0 := (Below.refl w.heap.size w).alloc (Nat.le_refl _) (.cells (Pk.cells { p with mo := false, st := 0, wh := false }) 24)
  go_enter Try.func5, Try.ntmps5
  go_wp2_with (refine blk_load _ rfl 24 _ rfl w.heap.size rfl _ _ F0 _ Try.underlying24 rfl 11 pk_info rfl ?_)
  refine (CS _).mono ?_
  rintro r w1 ⟨v1, rfl, O1, hb1⟩
  have b1 := b0.trans (hb1.mono b0.size)
  obtain ⟨a1, c1, rfl⟩ : ∃ a1 c1, v1 = .slice a1 L.length c1 := by
    rcases O1.forms with ⟨rfl, hl⟩ | ⟨g, c, rfl, _⟩
    · exact ⟨_, _, by rw [hl]; rfl⟩
    · exact ⟨_, _, rfl⟩
  clear CS F0 O1 hb1 b0
  go_wp2_with fail
  refine (lives _).mono ?_
  rintro r w2 ⟨rfl, hb2⟩
  have b2 := b1.trans (hb2.mono b1.size)
  clear hb2 b1
  by_cases ez : er = 0
  case neg =>
    have ez' : (er != 0) = true := by simpa using ez
    go_wp2_with fail
    refine (lives _).mono ?_
    rintro r w3 ⟨rfl, hb3⟩
    have b3 := b2.trans (hb3.mono b2.size)
    go_wp2_with fail
    go_ret
    exact ⟨rfl, b3⟩
  subst ez
  by_cases l64 : 64 < L.length
  · have l64' : decide (64 < (L.length : Int)) = true := by simp; omega
    go_wp2_with fail
    refine (lives _).mono ?_
    rintro r w3 ⟨rfl, hb3⟩
    have b3 := b2.trans (hb3.mono b2.size)
    go_wp2_with fail
    go_ret
    exact ⟨rfl, b3⟩
  have l64' : decide (64 < (L.length : Int)) = false := by simp; omega
  have l2 : L.length < 2 := by omega
  have l2' : decide ((L.length : Int) < 2) = true := by simp; omega
  clear hx l64 l2
  go_wp2_with fail
  refine (lives _).mono ?_
  rintro r w3 ⟨rfl, hb3⟩
  have b3 := b2.trans (hb3.mono b2.size)
  go_wp2_with fail
  go_ret
  exact ⟨rfl, b3⟩
end Go.Proofs.Ytlbpapngcgnepaa.frbi
