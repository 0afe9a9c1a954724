/- The walk through custkeep.SerialTrim. -/
import Derived.Test.YtdmlfnhlgnhkdaaSerTrimmed
import Derived.Test.YtdmlfnhlgnhkdaaSerKeep
import Derived.Lib.IndexMore
namespace Go.Proofs.Ytdmlfnhlgnhkdaa.sertk
open Go.ChangeShapes Go.WideShapes Go.ChangeAt Go.RowKit
open Go.Proofs.Ytdmlfnhlgnhkdaa.seri Go.Proofs.Ytdmlfnhlgnhkdaa.sert Go.Proofs.Ytdmlfnhlgnhkdaa.serm Go.Proofs.Ytdmlfnhlgnhkdaa.serr

theorem occ_index : ∀ (s sub : List UInt8) (i : Nat), i ≤ s.length → Lib.occAt s sub i = true → 0 ≤ Lib.index s sub
  | [], sub, i, hi, h => by
    have : i = 0 := by simpa using hi
    subst this
    cases sub with
    | nil => decide
    | cons a t => simp [Lib.occAt] at h
  | b :: l, sub, 0, _, h => by
    unfold Lib.index
    rw [if_pos (by simpa [Lib.occAt] using h)]
    decide
  | b :: l, sub, i + 1, hi, h => by
    have ih := occ_index l sub i (by simpa using hi) (by simpa [Lib.occAt] using h)
    unfold Lib.index
    split
    · decide
    · rw [if_neg (by simp; omega)]; omega
theorem has_extract (d : ByteArray) (b e : Nat) (h : b ≤ e) (he : e ≤ d.size) : Lib.contains d.data.toList (d.extract b e).data.toList = true := by
  have ho : Lib.occAt d.data.toList (d.extract b e).data.toList b = true := by
    unfold Lib.occAt
    rw [List.isPrefixOf_iff_prefix]
    simp
    exact List.take_prefix _ _
  have := occ_index d.data.toList _ b (by simp; omega) ho
  unfold Lib.contains
  exact decide_eq_true this
theorem pin_at (a f s : Int) (b i : Nat) : pin (num a b) f s i = pin a f s (b + i) := by
  unfold pin
  have : num (num a b) i = num a (b + i) := by unfold num; omega
  rw [this]
theorem best_all {n : Nat} {p : Nat → Bool} (h : ∀ i, i < n → p i = true) : Best n p 0 n where
  le := Nat.zero_le _
  en := Nat.le_refl _
  all := fun i _ hi => h i hi
  max := fun c g _ hg _ => by omega
  fst := fun c g _ hg _ _ => Nat.zero_le _
/-- what the law asks of what is told -/
structure Ts (a : Int) (d : ByteArray) (f s : Int) (A : Int) (S : ByteArray) : Prop where
  again : tr A S f s = (A, S)
  bd : 0 ≤ A ∧ A ≤ 4294967295
  none : S = emp → A = f
  some : ¬ S = emp → ∃ b : Nat, wy a A = (b : Int) ∧ b + S.size ≤ d.size ∧ d.extract b (b + S.size) = S ∧ (∀ k, k < S.size → pin A f s k = true) ∧ Lib.contains d.data.toList S.data.toList = true
  whole : (∀ i, i < d.size → pin a f s i = true) → S = d
theorem ts_tr (a : Int) (d : ByteArray) (f s : Int) (a0 : 0 ≤ a) (a1 : a < 4294967296) (f0 : 0 ≤ f) (f1 : f < 4294967296) (s0 : 0 ≤ s) (s1 : s < 4294967296) (hd : d.size ≤ 5000) : Ts a d f s (tr a d f s).1 (tr a d f s).2 := by
  obtain ⟨b, e, HB, HT⟩ := tr_best a d f s a0 a1 f0 f1 s0 s1 hd
  rw [HT]
  have hle := HB.le
  have hen := HB.en
  have hz := ext_size d b e hen
  by_cases h : b < e
  · have e1 : (told a d f b e).1 = num a b := by unfold told; exact if_pos h
    have e2 : (told a d f b e).2 = d.extract b e := rfl
    rw [e1, e2]
    have hall : ∀ k, k < (d.extract b e).size → pin (num a b) f s k = true := fun k hk => by rw [pin_at]; exact HB.all _ (by omega) (by omega)
    refine ⟨?_, by have := num_bd a b; omega, fun he => absurd he (ext_ne d b e h hen), fun _ => ⟨b, ?_, by omega, by rw [hz, Nat.add_sub_cancel' hle], hall, has_extract d b e hle hen⟩, fun hw => ?_⟩
    · have hn := num_bd a b
      obtain ⟨b2, e3, HB2, HT2⟩ := tr_best (num a b) (d.extract b e) f s hn.1 hn.2 f0 f1 s0 s1 (by omega)
      rw [HT2, told_one HB2 (best_all hall)]
      unfold told
      rw [if_pos (by omega), ext_all]
      have : num (num a b) 0 = num a b := by unfold num; omega
      rw [this]
    · unfold wy num; omega
    · have := (HB.one (best_all hw)).2 h
      obtain ⟨rfl, rfl⟩ := this
      exact ext_all d
  · have e1 : (told a d f b e).1 = f := by unfold told; exact if_neg h
    have e2 : (told a d f b e).2 = emp := ext_none d b e h
    rw [e1, e2]
    refine ⟨?_, by omega, fun _ => rfl, fun hh => absurd rfl hh, fun hw => ?_⟩
    · obtain ⟨b2, e3, HB2, HT2⟩ := tr_best f emp f s f0 f1 f0 f1 s0 s1 (by decide)
      have h0 : emp.size = 0 := rfl
      have := HB2.le
      have := HB2.en
      rw [HT2]; unfold told
      rw [if_neg (by omega), ext_none _ _ _ (by omega)]
    · have := (HB.one (best_all hw)).1
      exact (em_of d (by omega)).symm
set_option maxHeartbeats 2000000 in
theorem walk (a : Int) (d : ByteArray) (f s : Int) (w : World) (ha : 0 ≤ a ∧ a ≤ 4294967295) (hf : 0 ≤ f ∧ f ≤ 4294967295) (hs : 0 ≤ s ∧ s ≤ 4294967295) (hdz : d.size ≤ 140737488351232)
    (CC : d.size ≤ 5000 → ∀ x : ByteArray, Calls Try.prog 17 #[.string d, .string x] w fun e w' => e = .returned (.bool (Lib.contains d.data.toList x.data.toList)) ∧ w' = w) :
    Calls Try.prog 7 #[.int .u32 a, .string d, .int .u32 f, .int .u32 s] w fun e w' => e = .returned (.bool true) ∧ Below w.heap.size w w' := by
  have CT := fun u => trim_any a d f s u (by omega) (by omega) (by omega)
  by_cases hz : d.size ≤ 5000
  case neg =>
    have hz' : (5000 : Int) < d.size := by omega
    generalize (tr a d f s).1 = A at CT
    generalize (tr a d f s).2 = S at CT
    clear hdz hz CC ha hf hs
    go_enter Try.func7, Try.ntmps7
    go_wp2_with fail
    refine (CT _).mono ?_
    rintro e w1 ⟨rfl, rfl⟩
    go_wp2_with fail
    refine (serk.lives _).mono ?_
    rintro e w1 ⟨rfl, rfl⟩
    go_wp2_with fail
    refine (serk.lives _).mono ?_
    rintro e w1 ⟨rfl, rfl⟩
    go_wp2_with fail
    go_ret
    exact ⟨rfl, Below.refl _ _⟩
  have CC := CC hz
  have HS : Hid (Ts a d f s (tr a d f s).1 (tr a d f s).2) := ts_tr a d f s (by omega) (by omega) (by omega) (by omega) (by omega) (by omega) hz
  have hzz : (tr a d f s).2.size ≤ 5000 := by
    by_cases h : (tr a d f s).2 = emp
    · rw [h]; decide
    · obtain ⟨b, _, h2, _⟩ := HS.out.some h; omega
  generalize (tr a d f s).1 = A at CT HS hzz
  generalize (tr a d f s).2 = S at CT HS hzz
  have CA := fun u => trim_any A S f s u (by omega) (by omega) (by omega)
  rw [HS.out.again] at CA
  have hz' : ¬ (5000 : Int) < d.size := by omega
  go_enter Try.func7, Try.ntmps7
  go_wp2_with fail
  refine (CT _).mono ?_
  rintro e w1 ⟨rfl, rfl⟩
  go_wp2_with fail
  refine (serk.lives _).mono ?_
  rintro e w1 ⟨rfl, rfl⟩
  go_wp2_with fail
  refine (CA _).mono ?_
  rintro e w1 ⟨rfl, rfl⟩
  clear CA CT
  by_cases hS : S = emp
  · have hA : Hid (A = f) := HS.out.none hS
    subst hS
    unfold emp
    go_wp2_with fail
    go_ret
    exact ⟨by rw [hA.out]; simp, Below.refl _ _⟩
  · obtain ⟨b, hb, hle, hx, hall0, hcon⟩ := HS.out.some hS
    have hall : Hid (∀ k, k < S.size → pin A f s k = true) := hall0
    have hA0 : 0 ≤ A ∧ A ≤ 4294967295 := HS.out.bd
    have CY := fun u => rway_any a A u (by omega) (by omega) (by omega) (by omega)
    rw [hb] at CY
    have CC := CC S
    rw [hcon] at CC
    have hne := ne_list hS
    have hne' := ne_list' hS
    have hne2 : ¬ S = ⟨#[]⟩ := hS
    have sl : ∀ u, (Instr.slice 9 (.string d) (some (.int .i64 b)) (some (.int .i64 ((b : Int) + S.size))) none).run Try.prog u = .ok (.string S) u := fun u => by
      have := run_slice_string u 9 d .i64 .i64 (b : Int) ((b : Int) + S.size) Try.underlying9 (by omega) (by omega) (by omega)
      rw [show ((b : Int) + S.size).toNat = b + S.size by omega, show ((b : Int)).toNat = b by omega, hx] at this
      exact this
    have hlt : ¬ (d.size : Int) < (b : Int) + S.size := by omega
    have hb5 : b ≤ 5000 := by omega
    clear hall0 hcon hx hS hb
    go_wp2_with fail
    refine (CY _).mono ?_
    rintro e w1 ⟨rfl, rfl⟩
    go_wp2_with fail
    refine CC.mono ?_
    rintro e w1 ⟨rfl, rfl⟩
    clear CY CC sl hne hne' hne2 hlt
    go_wp2_with fail
    go_loopw [83] (fun i w' => ∃ k : Nat, k ≤ S.size ∧ i = .int .i64 k ∧ w1 = w') (fun i _ => S.size - (intOf i).toNat)
    case atStart => exact ⟨0, Nat.zero_le _, rfl, rfl⟩
    case round =>
      obtain ⟨k, hk, rfl, rfl⟩ := hrel
      by_cases hlt : k < S.size
      · have hlt' : (k : Int) < S.size := by omega
        have hk2 : (k : Int) % 4294967296 = k := by omega
        have CW := fun u => within_any (num A k) f s u
        rw [show inn (num A k) f s = true from hall.out k hlt] at CW
        have hk3 : k + 1 ≤ S.size := by omega
        go_wp2_with fail
        rw [show (A + (k : Int)) % 4294967296 = num A k from rfl]
        refine (CW _).mono ?_
        rintro e w2 ⟨rfl, rfl⟩
        go_wp2_with fail
        go_roundw
        case rel => exact ⟨k + 1, hk3, by go_num, trivial⟩
        case measure => simp [intOf]; omega
      · have hge : ¬ (k : Int) < S.size := by omega
        clear hk hlt
        go_wp2_with fail
        go_loopw [15, 97] (fun al i w' => ∃ (k : Nat) (B : Bool), k ≤ d.size ∧ Hid (B = true ↔ ∀ j, j < k → pin a f s j = true) ∧ al = .bool B ∧ i = .int .i64 k ∧ w' = w1) (fun _ i _ => d.size - (intOf i).toNat)
        case atStart => exact ⟨0, true, Nat.zero_le _, ⟨fun _ j hj => by omega, fun _ => rfl⟩, rfl, rfl, rfl⟩
        case round =>
          obtain ⟨k, B, hk, hB, rfl, rfl, rfl⟩ := hrel
          by_cases hlt : k < d.size
          · have hlt' : (k : Int) < d.size := by omega
            have hk2 : (k : Int) % 4294967296 = k := by omega
            have CW := fun u => within_any (num a k) f s u
            have hk3 : k + 1 ≤ d.size := by omega
            rw [show inn (num a k) f s = pin a f s k from rfl] at CW
            have H2 : Hid (∀ B' : Bool, B' = (B && pin a f s k) → (B' = true ↔ ∀ j, j < k + 1 → pin a f s j = true)) := fun B' e => by
              rw [e, Bool.and_eq_true, hB.out]
              constructor
              · rintro ⟨h1, h2⟩ j hj
                by_cases hjk : j = k
                · rw [hjk]; exact h2
                · exact h1 j (by omega)
              · exact fun h => ⟨fun j hj => h j (by omega), h k (by omega)⟩
            generalize pin a f s k = q at CW H2
            clear hB
            cases B with
            | false =>
              go_wp2_with fail
              go_roundw
              case rel => exact ⟨k + 1, false, hk3, H2.out _ rfl, rfl, by go_num, trivial⟩
              case measure => simp [intOf]; omega
            | true =>
              go_wp2_with fail
              rw [show (a + (k : Int)) % 4294967296 = num a k from rfl]
              refine (CW _).mono ?_
              rintro e w2 ⟨rfl, rfl⟩
              go_wp2_with fail
              go_roundw
              case rel => exact ⟨k + 1, q, hk3, H2.out _ (by simp), rfl, by go_num, trivial⟩
              case measure => simp [intOf]; omega
          · have hge : ¬ (k : Int) < d.size := by omega
            have hkd : k = d.size := by omega
            cases B with
            | false =>
              clear hk hlt hB hkd
              go_wp2_with fail
              go_ret
              exact ⟨rfl, Below.refl _ _⟩
            | true =>
              have hSd : Hid (S = d) := HS.out.whole (fun i hi => hB.out.1 rfl i (by omega))
              clear hk hlt hB hkd
              go_wp2_with fail
              go_ret
              exact ⟨by rw [hSd.out]; simp, Below.refl _ _⟩
end Go.Proofs.Ytdmlfnhlgnhkdaa.sertk
