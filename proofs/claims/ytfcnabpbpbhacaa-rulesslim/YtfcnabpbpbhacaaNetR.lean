/- The reference's small ones: custref.Num of a bit, Between, BitsOf, IsNet. -/
import Derived.Test.YtfcnabpbpbhacaaNetTx
import Derived.Test.YtfcnabpbpbhacaaNetSmall
import Derived.Test.YtfcnabpbpbhacaaShelf
namespace Go.Proofs.Ytfcnabpbpbhacaa.pf
open Go.ChangeShapes Go.WideShapes Go.ChangeAt Go.RowKit Go.BigFrame
open Go.Proofs.Ytfcnabpbpbhacaa Go.Proofs.Ytfcnabpbpbhacaa.pm Go.Proofs.Ytfcnabpbpbhacaa.boxes Go.Proofs.Ytfcnabpbpbhacaa.rwr
open Go.Proofs.Ytfcnabpbpbhacaa.rws (Knd Own)

theorem between_any (x a b : Int) (w : World) :
    Calls Try.prog 36 #[.int .i64 x, .int .i64 a, .int .i64 b] w fun e w' => e = .returned (.bool (decide (a ≤ x ∧ x ≤ b))) ∧ w' = w := by
  go_enter Try.func36, Try.ntmps36
  go_wp2
  all_goals go_ret
  all_goals exact ⟨by first | (simp_all; done) | (simp_all; omega), rfl⟩
theorem num0 : (⟨#[48, 49, 50, 51, 52, 53, 54, 55, 56, 57]⟩ : ByteArray).extract 0 1 = en [false] := by decide +kernel
theorem num1 : (⟨#[48, 49, 50, 51, 52, 53, 54, 55, 56, 57]⟩ : ByteArray).extract 1 2 = en [true] := by decide +kernel
theorem num_any (b : Bool) (w : World) :
    Calls Try.prog 44 #[.int .i64 (if b then 1 else 0)] w fun e w' => e = .returned (.string (en [b])) ∧ w' = w := by
  cases b
  · have sl : ∀ u, (Instr.slice 9 (.string ⟨#[48, 49, 50, 51, 52, 53, 54, 55, 56, 57]⟩) (some (.int .i64 0)) (some (.int .i64 1)) none).run Try.prog u = .ok (.string (en [false])) u := fun u => by
      have := run_slice_string (P := Try.prog) u 9 ⟨#[48, 49, 50, 51, 52, 53, 54, 55, 56, 57]⟩ .i64 .i64 0 1 Try.underlying9 (by omega) (by omega) (by show (1 : Int) ≤ 10; omega)
      rw [this]
      exact congrArg (fun s => Result.ok (Value.string s) u) num0
    generalize en [false] = S at *
    simp only [Bool.false_eq_true, if_false]
    go_enter Try.func44, Try.ntmps44
    go_wp2_with fail
    go_ret
    exact ⟨rfl, rfl⟩
  · have sl : ∀ u, (Instr.slice 9 (.string ⟨#[48, 49, 50, 51, 52, 53, 54, 55, 56, 57]⟩) (some (.int .i64 1)) (some (.int .i64 2)) none).run Try.prog u = .ok (.string (en [true])) u := fun u => by
      have := run_slice_string (P := Try.prog) u 9 ⟨#[48, 49, 50, 51, 52, 53, 54, 55, 56, 57]⟩ .i64 .i64 1 2 Try.underlying9 (by omega) (by omega) (by show (2 : Int) ≤ 10; omega)
      rw [this]
      exact congrArg (fun s => Result.ok (Value.string s) u) num1
    generalize en [true] = S at *
    simp only [if_true]
    go_enter Try.func44, Try.ntmps44
    go_wp2_with fail
    go_ret
    exact ⟨rfl, rfl⟩
theorem bit_of (a i : Nat) (ha : a < 4294967296) : (wrap64 ((a : Int) / (2 : Int) ^ (31 - i))).tmod 2 = (if decide (a / 2 ^ (31 - i) % 2 = 1) then 1 else 0) := by
  have e : (a : Int) / (2 : Int) ^ (31 - i) = ((a / 2 ^ (31 - i) : Nat) : Int) := by simp
  rw [e]
  have hX : a / 2 ^ (31 - i) ≤ a := Nat.div_le_self _ _
  generalize a / 2 ^ (31 - i) = X at *
  have e1 : wrap64 ((X : Nat) : Int) = ((X : Nat) : Int) := by unfold wrap64; omega
  rw [e1]
  have e2 : ((X : Nat) : Int).tmod 2 = ((X % 2 : Nat) : Int) := rfl
  rw [e2]
  rcases Nat.mod_two_eq_zero_or_one X with h | h <;> rw [h] <;> simp
theorem bts_snoc (a i : Nat) (hi : i < 32) (ha : a < 4294967296) : bts 32 a (i + 1) = bts 32 a i ++ [decide (a / 2 ^ (31 - i) % 2 = 1)] := by
  have h := bts_get 32 (i + 1) a i (by omega) (by omega) ha
  have hl := bts_length 32 (i + 1) a (by omega)
  rw [← bts_take 32 i (i + 1) a (by omega) (by omega)]
  have e := List.take_add_one (l := bts 32 a (i + 1)) (i := i)
  rw [List.take_of_length_le (by omega), h, show 32 - 1 - i = 31 - i by omega] at e
  exact e
theorem bitsOf_any (a n : Nat) (w : World) (hn : n ≤ 32) (ha : a < 4294967296) :
    Calls Try.prog 42 #[.int .u32 (a : Int), .int .i64 (n : Int)] w fun e w' => e = .returned (.string (en (bts 32 a n))) ∧ w' = w := by
  have HB : Hid (∀ i, i < 32 → en (bts 32 a (i + 1)) = en (bts 32 a i) ++ en [decide (a / 2 ^ (31 - i) % 2 = 1)]) := fun i hi => by rw [bts_snoc a i hi ha, en_append]
  have HN : Hid (∀ (i : Nat) (W : World), i < 32 → Calls Try.prog 44 #[.int .i64 ((wrap64 ((a : Int) / (2 : Int) ^ (31 - i))).tmod 2)] W fun e w' => e = .returned (.string (en [decide (a / 2 ^ (31 - i) % 2 = 1)])) ∧ w' = W) := fun i W _ => by rw [bit_of a i ha]; exact num_any _ W
  have HP : Hid (∀ i, i < 32 → (2 : Int) ^ (31 - i) < 9223372036854775807 ∧ 0 < (2 : Int) ^ (31 - i)) := fun i _ => by
    rw [show (2 : Int) ^ (31 - i) = ((2 ^ (31 - i) : Nat) : Int) by simp]
    have h : (2 : Nat) ^ (31 - i) ≤ 2 ^ 31 := Nat.pow_le_pow_right (by decide) (by omega)
    have h0 := Nat.two_pow_pos (31 - i)
    generalize 2 ^ (31 - i) = X at *
    omega
  have H0 : Hid (en (bts 32 a 0) = ⟨#[]⟩) := rfl
  have HZ : Hid (∀ i, i ≤ 32 → (en (bts 32 a i)).size ≤ 32) := fun i hi => by rw [en_size, bts_length 32 i a hi]; exact hi
  obtain ⟨f, hf⟩ : ∃ f, f = fun i => en (bts 32 a i) := ⟨_, rfl⟩
  have hfi : ∀ i, en (bts 32 a i) = f i := fun i => by rw [hf]
  simp only [hfi] at HB H0 HZ ⊢
  clear hf hfi
  go_enter Try.func42, Try.ntmps42
  go_wp2_with fail
  go_loopw [5, 8] (fun s5 s8 wr => ∃ (i : Nat) (x : ByteArray), s5 = .string x ∧ s8 = .int .i64 (i : Int) ∧ i ≤ n ∧ Hid (x = f i) ∧ wr = w) (fun _ s _ => n - (intOf s).toNat)
  case atStart => exact ⟨0, _, rfl, rfl, Nat.zero_le _, H0.out.symm, rfl⟩
  case round =>
    obtain ⟨i, x, rfl, rfl, hi, HX, rfl⟩ := hrel
    by_cases hlt : i < n
    · have hlt' : (i : Int) < (n : Int) := by omega
      have hi32 : i < 32 := by omega
      have CN := HN.out i wr hi32
      have hp := HP.out i hi32
      have hs : Hid (x ++ en [decide (a / 2 ^ (31 - i) % 2 = 1)] = f (i + 1)) := by
        have := HB.out i hi32
        show _ = _
        rw [HX.out, this]
      have z1 : x.size ≤ 32 := by rw [HX.out]; exact HZ.out i (by omega)
      have z2 : (en [decide (a / 2 ^ (31 - i) % 2 = 1)]).size ≤ 1 := Nat.le_of_eq (en_size _)
      generalize en [decide (a / 2 ^ (31 - i) % 2 = 1)] = S at *
      clear HX HZ
      have hw1 : ((31 : Int) - (i : Int)).toNat = 31 - i := by omega
      clear HN HP HB H0
      go_wp2_with fail
      refine CN.mono ?_
      rintro e wr ⟨rfl, rfl⟩
      go_wp2_with fail
      go_roundw
      case rel => exact ⟨i + 1, _, rfl, by go_num, by omega, hs, by trivial⟩
      case measure => simp [intOf]; omega
    · obtain rfl : i = n := by omega
      go_wp2_with fail
      go_ret
      exact ⟨congrArg (fun z => Ending.returned (Value.string z)) HX.out, rfl⟩
theorem isN_bits {a : Nat} {l : Int} (ha : a < 4294967296) (h0 : 0 ≤ l) (h1 : l ≤ 32) : isN a l = !decide (0 ≤ Lib.indexByte (enl ((bts 32 a 32).drop l.toNat)) 49) := by
  obtain ⟨n, rfl⟩ : ∃ n : Nat, l = (n : Int) := ⟨l.toNat, by omega⟩
  rw [Int.toNat_natCast]
  have hn : n ≤ 32 := by omega
  have e1 : decide (0 ≤ Lib.indexByte (enl ((bts 32 a 32).drop n)) 49) = ((bts 32 a 32).drop n).any id := by
    generalize (bts 32 a 32).drop n = q
    induction q with
    | nil => rfl
    | cons b q ih =>
      have hge := Lib.indexByte_ge (enl q) 49
      have e : enl (b :: q) = enb b :: enl q := rfl
      rw [e]
      cases b
      · simp only [Lib.indexByte, enb, List.any_cons, id, Bool.false_or, Bool.false_eq_true, if_false]
        rw [← ih, if_neg (by decide)]
        by_cases h : Lib.indexByte (enl q) 49 = -1
        · rw [h]; rfl
        · rw [if_neg (by simpa using h)]; exact decide_eq_decide.2 (by omega)
      · rfl
  rw [e1]
  unfold isN
  rw [decide_eq_true h0, decide_eq_true h1, Int.toNat_natCast, Bool.true_and, Bool.true_and]
  rw [Bool.eq_iff_iff, decide_eq_true_eq, Bool.not_eq_true', ← Bool.not_eq_true]
  have hget : ∀ i, i < 32 → (bts 32 a 32)[i]? = some (decide (a / 2 ^ (31 - i) % 2 = 1)) := fun i hi => by
    have := bts_get 32 32 a i (Nat.le_refl _) hi ha
    rwa [show 32 - 1 - i = 31 - i by omega] at this
  have hl := bts_length 32 32 a (Nat.le_refl _)
  have hbit : (((bts 32 a 32).drop n).any id = true) ↔ ∃ i, n ≤ i ∧ i < 32 ∧ a.testBit (31 - i) = true := by
    rw [List.any_eq_true]
    constructor
    · rintro ⟨x, hx, hxt⟩
      obtain ⟨j, hj, e⟩ := List.mem_iff_getElem.1 hx
      rw [List.length_drop, hl] at hj
      have e2 : ((bts 32 a 32).drop n)[j]? = some x := by rw [List.getElem?_eq_getElem (by rw [List.length_drop, hl]; exact hj), e]
      rw [List.getElem?_drop, hget _ (by omega)] at e2
      refine ⟨n + j, by omega, by omega, ?_⟩
      rw [Nat.testBit_eq_decide_div_mod_eq]
      rw [Option.some.inj e2]; exact hxt
    · rintro ⟨i, h1, h2, h3⟩
      refine ⟨true, List.mem_of_getElem? (i := i - n) ?_, rfl⟩
      rw [List.getElem?_drop, show n + (i - n) = i by omega, hget i h2, ← Nat.testBit_eq_decide_div_mod_eq, h3]
  rw [hbit]
  constructor
  · rintro e ⟨i, h1, h2, h3⟩
    rw [← e, Nat.mul_comm, Nat.testBit_two_pow_mul] at h3
    simp at h3
    omega
  · intro hno
    refine Nat.eq_of_testBit_eq fun i => ?_
    rw [Nat.mul_comm, Nat.testBit_two_pow_mul, Nat.testBit_div_two_pow]
    by_cases hi : 32 - n ≤ i
    · rw [decide_eq_true hi, Bool.true_and]; congr 1; omega
    · rw [decide_eq_false hi, Bool.false_and]
      symm
      rw [← Bool.not_eq_true]
      intro h
      exact hno ⟨31 - i, by omega, by omega, by rw [show 31 - (31 - i) = i by omega]; exact h⟩
theorem en_cut (q : Pth) (n : Nat) (h : n ≤ q.length) (u : World) : (Instr.slice 9 (.string (en q)) (some (.int .i64 (n : Int))) none none).run Try.prog u = .ok (.string (en (q.drop n))) u := by
  have hs : (en q).size = q.length := en_size q
  have := run_slice_string_l (P := Try.prog) u 9 (en q) Try.underlying9 .i64 (n : Int) (by omega) (by rw [hs]; omega)
  rw [this]
  refine congrArg (fun s => Result.ok (Value.string s) u) (bytes_eq ?_)
  rw [en_data, ByteArray.data_extract, Int.toNat_natCast]
  simp only [Array.toList_extract]
  rw [show (en q).data.toList = enl q from rfl, hs, List.extract_eq_take_drop, List.take_of_length_le]
  · simp [enl, List.map_drop]
  · simp [enl]
set_option maxRecDepth 20000 in
theorem isNetR_any (a : Nat) (l : Int) (w : World) (ha : a < 4294967296) :
    Calls Try.prog 38 #[.agg (NC a l)] w fun e w' => e = .returned (.bool (isN a l)) ∧ Below w.heap.size w w' := by
  have b1 := (Below.refl w.heap.size w).alloc (Nat.le_refl _) (.cells (NC a l) 32)
  have G1 := Blk.new w (NC a l) 32
  have CB := fun W => between_any l 0 32 W
  by_cases hb : 0 ≤ l ∧ l ≤ 32
  · obtain ⟨n, rfl⟩ : ∃ n : Nat, l = (n : Int) := ⟨l.toNat, by omega⟩
    have hn : n ≤ 32 := by omega
    rw [isN_bits ha hb.1 hb.2, Int.toNat_natCast]
    rw [decide_eq_true hb] at CB
    have CO := fun W => bitsOf_any a 32 W (Nat.le_refl _) ha
    have CC := fun W => Try.strings_Contains_one (en ((bts 32 a 32).drop n)) 49 W
    have sl := en_cut (bts 32 a 32) n (by rw [bts_length 32 32 a (Nat.le_refl _)]; exact hn)
    rw [en_data] at CC
    generalize Lib.indexByte (enl ((bts 32 a 32).drop n)) 49 = ix at *
    generalize en ((bts 32 a 32).drop n) = Z at *
    generalize en (bts 32 a 32) = X at *
    clear ha hb
    go_enter Try.func38, Try.ntmps38
    go_upto_region 1 with fail
    generalize w.alloc (.cells (NC a (n : Int)) 32) = W at *
    have nn := ab.ne W
    have c0 := ab.cells G1
    refine ab.region (by kernel_rfl) (by kernel_rfl) ?_
    repeat (go_big_quiet_step (first | (go_at_call 36; exact ab.call_same (CB _)) | (go_at_call 42; exact ab.call_same (CO _)) | (go_at_call 41; exact ab.call_same (CC _))))
    refine wpQuiet_nil ?_
    intro _ hx
    obtain ⟨z, rfl⟩ := hx
    go_wp2_with fail
    go_ret
    exact ⟨rfl, b1.trans (z.h.mono b1.size)⟩
  · have e : isN a l = false := by
      unfold isN
      by_cases h0 : 0 ≤ l
      · rw [decide_eq_false (show ¬ l ≤ 32 by omega)]; simp
      · rw [decide_eq_false h0]; simp
    rw [e]
    rw [decide_eq_false hb] at CB
    clear ha hb e
    go_enter Try.func38, Try.ntmps38
    go_upto_region 1 with fail
    generalize w.alloc (.cells (NC a l) 32) = W at *
    have nn := ab.ne W
    have c0 := ab.cells G1
    refine ab.region (by kernel_rfl) (by kernel_rfl) ?_
    repeat (go_big_quiet_step ((go_at_call 36; exact ab.call_same (CB _))))
    refine wpQuiet_nil ?_
    intro _ hx
    obtain ⟨z, rfl⟩ := hx
    go_wp2_with fail
    go_ret
    exact ⟨rfl, b1.trans (z.h.mono b1.size)⟩
end Go.Proofs.Ytfcnabpbpbhacaa.pf
