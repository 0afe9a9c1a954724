/- The reference's small ones: custref.NetOf. -/
import Derived.Test.YtiddpkppfpdfhaaPrShelf
import Derived.Test.YtiddpkppfpdfhaaPfSmall
import Derived.Test.YtiddpkppfpdfhaaNetR
namespace Go.Proofs.Ytiddpkppfpdfhaa.pf
open Go.ChangeShapes Go.WideShapes Go.ChangeAt Go.RowKit Go.BigFrame
open Go.Proofs.Ytiddpkppfpdfhaa Go.Proofs.Ytiddpkppfpdfhaa.pm Go.Proofs.Ytiddpkppfpdfhaa.boxes Go.Proofs.Ytiddpkppfpdfhaa.rwr
open Go.Proofs.Ytiddpkppfpdfhaa.rws (Knd Own)

/-- so far: the number of i bits -/
def nb (p : Pth) : Nat → Nat
  | 0 => 0
  | i + 1 => nb p i * 2 + (if p.getD i false then 1 else 0)
theorem nb_lt (p : Pth) : ∀ i, nb p i < 2 ^ i := by
  intro i
  induction i with
  | zero => simp [nb]
  | succ i ih => simp only [nb, Nat.pow_succ]; split <;> omega
theorem ad_cons (k : Nat) (b : Bool) (p : Pth) : ad (k + 1) (b :: p) = (if b then 2 ^ k else 0) + ad k p := by
  cases b <;> simp [ad]
theorem nb_cons (b : Bool) (p : Pth) : ∀ i, nb (b :: p) (i + 1) = (if b then 2 ^ i else 0) + nb p i := by
  intro i
  induction i with
  | zero => cases b <;> simp [nb]
  | succ i ih =>
    rw [nb, ih, nb]
    simp only [List.getD_cons_succ]
    rw [Nat.pow_succ]
    cases b <;> simp <;> omega
theorem nb_nil : ∀ i, nb [] i = 0 := by
  intro i
  induction i with
  | zero => rfl
  | succ i ih => simp [nb, ih]
theorem nb_ad : ∀ (k : Nat) (p : Pth), p.length ≤ k → nb p k = ad k p := by
  intro k
  induction k with
  | zero => intro p h; have : p = [] := List.eq_nil_of_length_eq_zero (by omega); subst this; rfl
  | succ k ih =>
    intro p h
    cases p with
    | nil => rw [nb_nil]; rfl
    | cons b p => rw [nb_cons, ad_cons, ih p (by simpa using h)]
theorem ix_en (p : Pth) (i : Nat) (h : i < p.length) (u : World) : (Instr.index 9 (.string (en p)) (.int .i64 (i : Int))).run Try.prog u = .ok (.int .u8 (if p.getD i false then 49 else 48)) u := by
  have hs : (en p).size = p.length := en_size p
  rw [run_index_string u 9 (en p) .i64 _ Try.underlying9, dif_pos ⟨by omega, by omega⟩]
  simp only [Int.toNat_natCast]
  refine congrArg (fun z => Result.ok (Value.int .u8 z) u) ?_
  have e : (en p)[i]'(by omega) = enb (p[i]'h) := by
    have hd : (en p).data.size = p.length := en_size p
    show (en p).data[i]'(by rw [hd]; exact h) = _
    simp [en, enb]
  rw [e, List.getD_eq_getElem?_getD, List.getElem?_eq_getElem h, Option.getD_some]
  cases p[i] <;> rfl
set_option maxRecDepth 20000 in
theorem netOf_any (p : Pth) (w : World) (hp : p.length ≤ 32) :
    Calls Try.prog 20 #[.string (en p)] w fun e w' => e = .returned (.agg (NC (ad 32 p) p.length)) ∧ Below w.heap.size w w' := by
  have b1 := (Below.refl w.heap.size w).alloc (Nat.le_refl _) (.cells (NC 0 0) 27)
  have G1 := Blk.new w (NC 0 0) 27
  have HX : Hid (∀ i, i < p.length → ∀ u, (Instr.index 9 (.string (en p)) (.int .i64 (i : Int))).run Try.prog u = .ok (.int .u8 (if p.getD i false then 49 else 48)) u) := fun i h u => ix_en p i h u
  have HG : Hid (∀ i, p.length ≤ i → p.getD i false = false) := fun i h => by rw [List.getD_eq_getElem?_getD, List.getElem?_eq_none h]; rfl
  have HE : Hid (nb p 32 = ad 32 p) := nb_ad 32 p hp
  have HS : Hid (∀ i, nb p (i + 1) = nb p i * 2 + (if p.getD i false then 1 else 0)) := fun _ => rfl
  have HL : Hid (∀ i, i ≤ 32 → nb p i < 2 ^ 32) := fun i h => Nat.lt_of_lt_of_le (nb_lt p i) (Nat.pow_le_pow_right (by decide) h)
  have H0 : Hid (nb p 0 = 0) := rfl
  have hsz : (en p).size = p.length := en_size p
  obtain ⟨f, hf⟩ : ∃ f, f = nb p := ⟨_, rfl⟩
  rw [← hf] at HE HS HL H0
  clear hf
  obtain ⟨g, hg⟩ : ∃ g : Nat → Bool, g = fun i => p.getD i false := ⟨_, rfl⟩
  have hgi : ∀ i, p.getD i false = g i := fun i => by rw [hg]
  simp only [hgi] at HX HG HS
  clear hgi hg
  generalize ad 32 p = A at *
  obtain ⟨m, hm⟩ : ∃ m, m = p.length := ⟨_, rfl⟩
  rw [← hm] at HX HG hsz hp ⊢
  have hN2 : ((en p).size : Int) = (m : Int) := by rw [hsz]
  generalize en p = s at *
  go_enter Try.func20, Try.ntmps20
  go_upto_region 1 with fail
  generalize w.alloc (.cells (NC 0 0) 27) = W at *
  clear hsz hm
  go_wp2_with fail
  go_loopw [3, 5] (fun s3 s5 wr => ∃ (i : Nat) (x : Nat), s3 = .int .i64 (x : Int) ∧ s5 = .int .i64 (i : Int) ∧ i ≤ 32 ∧ Hid (x = f i) ∧ wr = W) (fun _ s _ => 32 - (intOf s).toNat)
  case atStart => exact ⟨0, 0, rfl, rfl, Nat.zero_le _, H0.out.symm, rfl⟩
  case round =>
    obtain ⟨i, x, rfl, rfl, hi, HF, rfl⟩ := hrel
    by_cases hlt : i < 32
    · have hlt' : (i : Int) < 32 := by omega
      have hx : (x : Int) < 4294967296 := by
        have := HL.out i hi
        rw [← HF.out] at this
        omega
      by_cases him : i < m
      · have hix := HX.out i him
        have him' : (i : Int) < (m : Int) := by omega
        have hs := HS.out i
        rw [← HF.out] at hs
        obtain ⟨b, hb⟩ : ∃ b, b = g i := ⟨_, rfl⟩
        rw [← hb] at hix hs
        clear hb HF
        cases b
        · have HF2 : Hid (x * 2 = f (i + 1)) := by show _ = _; rw [hs]; rfl
          clear hs
          simp only [Bool.false_eq_true, if_false] at hix
          go_wp2_with fail
          go_roundw
          case rel => exact ⟨i + 1, x * 2, by go_num, by go_num, by omega, HF2, by trivial⟩
          case measure => simp [intOf]; omega
        · have HF2 : Hid (x * 2 + 1 = f (i + 1)) := by show _ = _; rw [hs]; rfl
          clear hs
          simp only [if_true] at hix
          go_wp2_with fail
          go_roundw
          case rel => exact ⟨i + 1, x * 2 + 1, by go_num, by go_num, by omega, HF2, by trivial⟩
          case measure => simp [intOf]; omega
      · have him' : ¬ (i : Int) < (m : Int) := by omega
        have HF2 : Hid (x * 2 = f (i + 1)) := by
          show _ = _
          rw [HS.out i, ← HF.out, HG.out i (by omega)]
          rfl
        clear HF
        go_wp2_with fail
        go_roundw
        case rel => exact ⟨i + 1, x * 2, by go_num, by go_num, by omega, HF2, by trivial⟩
        case measure => simp [intOf]; omega
    · obtain rfl : i = 32 := by omega
      have hx : (x : Int) < 4294967296 := by
        have := HL.out 32 hi
        rw [← HF.out] at this
        omega
      have hxe : Hid (x = A) := HF.out.trans HE.out
      clear HF
      have hlt' : ¬ ((32 : Nat) : Int) < 32 := by decide
      go_upto_region 9 with fail
      have hx2 : (x : Int) % 4294967296 = (x : Int) := by omega
      go_wp2_with (refine blk_store _ rfl 27 _ _ rfl w.heap.size (NC x (m : Int)) rfl rfl _ _ G1 2 nt_info rfl rfl (nt_one ⟨x, m⟩) ?_; intro W4 K4 p4)
      exact blk_one rfl rfl w.heap.size (NC x (m : Int)) 27 rfl K4 _ Try.underlying27 rfl 2 nt_info rfl ⟨congrArg (fun z : Nat => Ending.returned (Value.agg (NC z (m : Int)))) hxe.out, p4.below b1 (by omega)⟩
end Go.Proofs.Ytiddpkppfpdfhaa.pf
