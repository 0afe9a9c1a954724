/- What custref's tableAt and tableAdd answer. -/
import Derived.Test.YtmnmjmbfnecmoaaTabRef2
import Derived.Test.YtmnmjmbfnecmoaaTold
namespace Go.Proofs.Ytmnmjmbfnecmoaa.ra
open Go.ChangeShapes Go.WideShapes Go.ChangeAt Go.RowKit Go.BigFrame
open Go.Proofs.Ytmnmjmbfnecmoaa Go.Proofs.Ytmnmjmbfnecmoaa.tm Go.Proofs.Ytmnmjmbfnecmoaa.tb Go.Proofs.Ytmnmjmbfnecmoaa.ti Go.Proofs.Ytmnmjmbfnecmoaa.rh Go.Proofs.Ytmnmjmbfnecmoaa.boxes Go.Proofs.Ytmnmjmbfnecmoaa.rwr
open Go.Proofs.Ytmnmjmbfnecmoaa.rws (Knd Own)

def hit (k : Nat) (x : St) : Bool := x.u && ((x.k : Int) == (k : Int))
set_option maxRecDepth 20000 in
theorem pred (k : Nat) (B : Nat) (t : TypeId) (w : World) (F : Blk w B #[.int .u64 (k : Int)] t) :
    PredBelow Try.prog 39 #[.pointer (some ⟨B, 0, none⟩)] (fun x : St => .agg (St.cells x).toList.toArray) (hit k) w := fun W x hb => by
  have F1 := F.below hb F.lt
  have b1 := hb.alloc hb.size (.cells (St.cells x) 40)
  have F2 := F1.alloc (.cells (St.cells x) 40)
  have hB : B < W.heap.size := F1.lt
  have cF := F2.cell
  obtain ⟨su, sk, sv⟩ := x
  show Calls Try.prog 39 #[.agg #[.bool su, .int .u64 (sk : Int), .int .i64 sv], .pointer (some ⟨B, 0, none⟩)] W fun e w' => e = .returned (.bool (hit k ⟨su, sk, sv⟩)) ∧ _
  have HE : Hid (hit k ⟨su, sk, sv⟩ = (su && ((sk : Int) == (k : Int)))) := (rfl : _ = _)
  generalize hit k ⟨su, sk, sv⟩ = R at *
  cases su
  · go_enter Try.func39, Try.ntmps39
    go_wp2_with fail
    go_ret
    exact ⟨ret_bool (by rw [HE.out]; rfl), b1⟩
  · by_cases h : sk = k
    · subst h
      go_enter Try.func39, Try.ntmps39
      go_wp2_with fail
      go_ret
      exact ⟨ret_bool (by rw [HE.out]; simp), b1⟩
    · have h' : ((sk : Int) == (k : Int)) = false := by simp; omega
      clear h
      go_enter Try.func39, Try.ntmps39
      go_wp2_with fail
      go_ret
      exact ⟨ret_bool (by rw [HE.out, h']; rfl), b1⟩
/-- where the first is -/
def ix (k : Nat) : List St → Nat → Int
  | [], _ => -1
  | y :: r, i => if hit k y = true then (i : Int) else ix k r (i + 1)
theorem ix_by (k : Nat) (x : St) : ∀ (X : List St) (i : Nat), Lib.idxByFrom (fun _ y : St => hit k y) x X i = ix k X i
  | [], _ => rfl
  | y :: r, i => by
    show (if hit k y = true then (i : Int) else Lib.idxByFrom _ x r (i + 1)) = if hit k y = true then (i : Int) else ix k r (i + 1)
    rw [ix_by k x r (i + 1)]
theorem hit_iff (k : Nat) (x : St) : hit k x = true ↔ x.u = true ∧ x.k = k := by
  unfold hit
  cases x.u <;> simp <;> omega
theorem ix_none (k : Nat) : ∀ (l : List St) (i : Nat), (∀ j, j < l.length → hit k (ax l j) = false) → ix k l i = -1
  | [], _, _ => rfl
  | y :: r, i, h => by
    have h0 : hit k y = false := h 0 (by simp)
    unfold ix
    rw [h0, if_neg (by decide)]
    exact ix_none k r (i + 1) fun j hj => h (j + 1) (by simpa using hj)
theorem ix_some (k : Nat) : ∀ (l : List St) (i j : Nat), j < l.length → hit k (ax l j) = true → (∀ q, q < j → hit k (ax l q) = false) → ix k l i = ((i + j : Nat) : Int)
  | [], _, _, h, _, _ => absurd h (by simp)
  | y :: r, i, 0, _, h, _ => by
    have h0 : hit k y = true := h
    unfold ix
    rw [h0, if_pos rfl]; rfl
  | y :: r, i, j + 1, hj, h, hq => by
    have h0 : hit k y = false := hq 0 (by omega)
    unfold ix
    rw [h0, if_neg (by decide), ix_some k r (i + 1) j (by simpa using hj) h (fun q hq' => hq (q + 1) (by omega))]
    omega
theorem ix_has {l : List St} {k j : Nat} (hH : ∀ k, hl l k < l.length) (h : Rt (hl l) l) (hj : Has l k j) : ix k l 0 = (j : Int) := by
  rw [ix_some k l 0 j hj.1 ((hit_iff _ _).2 ⟨hj.2.1, hj.2.2⟩) (fun q hq => by
    cases hc : hit k (ax l q)
    · rfl
    · have := (hit_iff _ _).1 hc
      have := rt_uniq hH h ⟨by have := hj.1; omega, this.1, this.2⟩ hj
      omega)]
  rw [Nat.zero_add]
theorem ix_no {l : List St} {k : Nat} (h : ¬ ∃ j, Has l k j) : ix k l 0 = -1 := ix_none k l 0 fun j hj => by
  cases hc : hit k (ax l j)
  · rfl
  · have := (hit_iff _ _).1 hc
    exact absurd ⟨j, hj, this.1, this.2⟩ h
theorem idx_none (sa : Option Addr) (sc : Nat) (f : Value) (w : World) : Calls Try.prog 38 #[.slice sa 0 sc, f] w fun e w' => e = .returned (.int .i64 (-1)) ∧ Below w.heap.size w w' := by
  go_enter Try.func38, Try.ntmps38
  go_wp2
  go_loopg [8] 0 (fun g s13 wr => s13 = .int .i64 0 ∧ wr = w)
  case atStart => exact ⟨rfl, rfl⟩
  case round =>
    obtain ⟨rfl, rfl⟩ := hrel
    go_wp2
    go_ret
    exact ⟨rfl, Below.refl _ _⟩
theorem index_any (v : Value) (X : List St) (k B : Nat) (t : TypeId) (w : World) (hr : Rd SK w v X) (F : Blk w B #[.int .u64 (k : Int)] t) :
    Calls Try.prog 38 #[v, .func (.func 39) #[] #[.pointer (some ⟨B, 0, none⟩)]] w fun e w' => e = .returned (.int .i64 (ix k X 0)) ∧ Below w.heap.size w w' := by
  obtain ⟨sa, sc, rfl, hm, hn, hc⟩ := hr
  by_cases hX : 0 < X.length
  · obtain ⟨b, off, rfl, hlt, hx⟩ := hc hX
    have eg : ∀ args w, (callFunc 39 args).run Try.prog w = .ok (.enter 39 args) w := enters_of Try.func39 (by kernel_rfl) rfl
    refine (AnyQ.slices_IndexFunc Try.idxSl 3 Try.isAgg40 Try.sizeOf40 (fun x : St => (St.cells x).toList) (fun _ => rfl) (hit k) 39 #[.pointer (some ⟨B, 0, none⟩)] eg b off X.length sc X _ (pred k B t _ F) (Nat.le_refl _) (by unfold maxLen at hm; omega) hlt (rd_cells (K := SK) hx)).mono ?_
    rintro e w' ⟨rfl, hb⟩
    refine ⟨?_, hb⟩
    rw [List.take_length]
    unfold Lib.idxBy
    rw [ix_by]
  · have : X = [] := List.eq_nil_of_length_eq_zero (by omega)
    subst this
    exact idx_none sa sc _ _
theorem tableAt_any (v : Value) (l : List St) (k : Nat) (w : World) (h : Rd SK w v l) : Calls Try.prog 32 #[.agg #[v], .int .u64 (k : Int)] w fun e w' => e = .returned (.int .i64 (ix k l 0)) ∧ Below w.heap.size w w' := by
  have F0 := (Blk.new w #[v] 24).alloc (.cells #[.int .u64 (k : Int)] 25)
  have G0 := Blk.newAt (w.alloc (.cells #[v] 24)) #[.int .u64 (k : Int)] 25 (b := w.heap.size + 1) (by simp)
  have b0 := ((Below.refl w.heap.size w).alloc (Nat.le_refl _) (.cells #[v] 24)).alloc (by simp) (.cells #[.int .u64 (k : Int)] 25)
  have CI := index_any v l k (w.heap.size + 1) 25 _ (h.below b0) G0
  obtain ⟨sa, sc, rfl⟩ := h.form
  have c0 := F0.cell
  clear h
  generalize ix k l 0 = R at *
  generalize l.length = n at *
  go_enter Try.func32, Try.ntmps32
  go_wp2_with fail
  refine CI.mono ?_
  rintro e w1 ⟨rfl, z⟩
  have b1 := b0.trans (z.mono b0.size)
  go_wp2_with fail
  go_ret
  exact ⟨rfl, b1⟩
theorem grown_blk {w w' : World} {g b : Nat} {F : Array Value} {t : TypeId} (h : w.grownBy w' (some g)) (k : Blk w b F t) (hb : b ≠ g) : Blk w' b F t := (h.block b k.lt (fun e => hb (Option.some.inj e))).trans k
set_option maxHeartbeats 2000000 in
theorem tableAdd_any (l : List St) (s : St) (B g cap n : Nat) (w : World) (h : Own SK w B (.slice (some ⟨g, 0, none⟩) n cap) l) (hn : l.length = n) (hb : bn n ≠ 0) (hf : ∃ j, j < l.length ∧ (ax l j).u = false) (hk : s.k < 18446744073709551616) :
    Calls Try.prog 33 #[.slice (some ⟨g, 0, none⟩) n cap, .agg (St.cells s)] w fun e w' => e = .returned (.tuple #[]) ∧ Own SK w' B (.slice (some ⟨g, 0, none⟩) n cap) (addS (hm n) l s) ∧ w.grownBy w' (some g) := by
  have hbd := bn_bd hb
  have F0 := Blk.new w (St.cells s) 40
  have b0 := (Below.refl w.heap.size w).alloc (Nat.le_refl _) (.cells (St.cells s) 40)
  have O0 := h.alloc (.cells (St.cells s) 40)
  obtain ⟨V, HV⟩ : ∃ V, Hid (w.alloc (.cells (St.cells s) 40) = V) := ⟨_, rfl⟩
  rw [HV.out] at F0 b0 O0
  have nn := ab.ne V
  have ca := ab.cells F0
  have CB := fun u => rbits_any n u
  have CH := fun u => homeOf_any (bn n) s.k u (by omega) (bn_le _) hk
  have HFr : Hid (∀ q, q < n → (ax l q).u = false → (∀ q', q' < n → On (hm n s.k) q q' → (ax l q').u = true) → addS (hm n) l s = l.set q s) := fun q hq h1 h2 => by
    have : Fre (hm n) l s.k q := ⟨by rw [hn]; exact hq, h1, fun q' hq' => h2 q' (by rw [← hn]; exact hq')⟩
    unfold addS
    rw [fre_eq (by rw [hn]; exact hm_lt hb _) this]
  have hh := hm_lt hb s.k
  have HS : Hid (∀ j, j < n → (∀ q, q < n → On (hm n s.k) j q → (ax l q).u = true) → (ax l j).u = true → (∀ q, q < n → On (hm n s.k) (nx n j) q → (ax l q).u = true) ∧ stp n (hm n s.k) (nx n j) = stp n (hm n s.k) j + 1) := fun j hj h1 h2 =>
    run_step (P := fun q => (ax l q).u = true) hh hj h1 h2 (by obtain ⟨u, u1, u2⟩ := hf; exact ⟨u, by rw [← hn]; exact u1, fun c => by rw [u2] at c; cases c⟩)
  have HL : Hid (∀ j, stp n (hm n s.k) j < n) := fun j => stp_lt hh
  have HK : Hid (hm n s.k < n) := hh
  have HN : Hid (l.length = n) := hn
  have hmb : hmb (bn n) s.k = hm n s.k := rfl
  rw [hmb] at CH
  have hn0 : ¬ (n : Int) = 0 := by omega
  have hgB : B ≤ g := by
    obtain ⟨g', cap', e, h1, _⟩ := h.form (by omega)
    simp only [Value.slice.injEq, Option.some.injEq, Addr.mk.injEq, and_true] at e
    rw [e.1]; exact h1
  clear hmb hf hk hh hn
  generalize addS (hm n) l s = RES at *
  generalize hm n s.k = h0 at *
  generalize bn n = bb at *
  obtain ⟨T, HT⟩ : ∃ T, Hid (s = T) := ⟨_, rfl⟩
  go_enter Try.func33, Try.ntmps33
  go_upto_region 1 with fail
  rw [HV.out]
  refine ab.region (by kernel_rfl) (by kernel_rfl) ?_
  repeat (go_big_quiet_step (first | (go_at_call 30; exact ab.call_same (CB _)) | (go_at_call 14; exact ab.call_same (CH _))))
  refine wpQuiet_nil ?_
  intro _ hx
  obtain ⟨x, rfl⟩ := hx
  have b1 := b0.trans (Below.mono x.h b0.size)
  have F1 := F0.below x.h F0.lt
  have O1 := O0.kept x.h
  generalize x.W = W at *
  clear O0 F0 ca nn CB CH h HV b0
  go_wp2_with fail
  go_loop [4] (fun s4 => ∃ q : Nat, s4 = .int .i64 (q : Int) ∧ q < n ∧ Hid (∀ q', q' < n → On h0 q q' → (ax l q').u = true)) (fun s => n - stp n h0 (intOf s).toNat)
  case atStart => exact ⟨h0, rfl, HK.out, fun q _ ho => by simp only [On] at ho; omega⟩
  case round =>
    obtain ⟨q, rfl, hq, HP⟩ := hrel
    have gp : l[q]? = some (ax l q) := ax_get (by rw [HN.out]; exact hq)
    have cu : W.cell? ⟨g, q * 3, none⟩ = some (.bool (ax l q).u) := O1.cell (K := SK) gp (i := 0) (by decide)
    have hq' : (q : Int) < (n : Int) := by omega
    have hmd := nx_tmod n q
    cases hu : (ax l q).u
    · rw [hu] at cu
      have HE : Hid (RES = l.set q s) := HFr.out q hq hu HP.out
      clear hu HFr HS HP gp
      go_wp2_with (first | (refine blk_load _ rfl 40 _ rfl w.heap.size rfl _ _ F1 _ Try.underlying40 rfl 3 sl_info rfl ?_) | (refine elem_store SK _ rfl _ _ rfl B g n cap l O1 q _ rfl rfl (by rw [HN.out]; exact hq) s rfl ?_))
      intro W6 O6 p6
      go_wp2_with fail
      go_end0
      exact ⟨rfl, by rw [HE.out]; exact O6, ⟨p6.os.trans b1.os, p6.tape.trans b1.tape, p6.output.trans b1.output, by rw [p6.size]; exact b1.size, fun k hk hne => (p6.block k (fun e => hne (by rw [e]))).trans (b1.block k hk)⟩⟩
    · rw [hu] at cu
      have HS' : Hid ((∀ q', q' < n → On h0 (nx n q) q' → (ax l q').u = true) ∧ stp n h0 (nx n q) = stp n h0 q + 1) := HS.out q hq HP.out hu
      clear hu HFr HS HP gp
      go_wp2_with fail
      go_round
      case rel => exact ⟨nx n q, rfl, nx_lt hq, HS'.out.1⟩
      case measure =>
        have h1 := HS'.out.2
        have h2 := HL.out q
        have h3 := HL.out (nx n q)
        simp [intOf]
        omega
end Go.Proofs.Ytmnmjmbfnecmoaa.ra
