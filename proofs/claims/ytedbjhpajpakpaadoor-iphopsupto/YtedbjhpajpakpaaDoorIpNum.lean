/- What custref.Num, AddrText and ReadNum answer. -/
import Derived.Test.YtedbjhpajpakpaaDoorIpText
import Derived.Test.YtedbjhpajpakpaaDoorIpShow
import Derived.Test.YtedbjhpajpakpaaDoorDotMath
import Derived.Lib.ItoaLen
namespace Go.Proofs.YtedbjhpajpakpaaDoor.ipn
open Go.ChangeShapes Go.WideShapes Go.ChangeAt Go.RowKit Go.BigFrame
open Go.Proofs.YtedbjhpajpakpaaDoor Go.Proofs.YtedbjhpajpakpaaDoor.EM Go.Proofs.YtedbjhpajpakpaaDoor.ethb Go.Proofs.YtedbjhpajpakpaaDoor.SM Go.Proofs.YtedbjhpajpakpaaDoor.ipb Go.Proofs.YtedbjhpajpakpaaDoor.buf Go.Proofs.YtedbjhpajpakpaaDoor.boxes Go.Proofs.YtedbjhpajpakpaaDoor.ipi Go.Proofs.YtedbjhpajpakpaaDoor.ipw Go.Proofs.YtedbjhpajpakpaaDoor.ips Go.Proofs.YtedbjhpajpakpaaDoor.ipt Go.Proofs.YtedbjhpajpakpaaDoor.dotm
open Go.Proofs.YtedbjhpajpakpaaDoor.refb (between_any)
open Go.Proofs.YtedbjhpajpakpaaDoor.ipm (bytes_ext ext_list size_list)
open Go.Lib (decDigits)

theorem digit_at : ∀ n : Fin 10, (⟨#[48, 49, 50, 51, 52, 53, 54, 55, 56, 57]⟩ : ByteArray).extract n.val (n.val + 1) = ⟨#[UInt8.ofNat (48 + n.val)]⟩ := by decide +kernel
theorem dec_size (n : Nat) (h : n < 18446744073709551616) : (⟨(decDigits n).toArray⟩ : ByteArray).size ≤ 20 := by
  show (decDigits n).toArray.size ≤ 20
  rw [List.size_toArray, Lib.decDigits_length]; exact Lib.nDigits_le20 n h
theorem num_any : ∀ (n : Nat) (w : World), n < 9223372036854775807 →
    Calls Tryd.prog 31 #[.int .i64 n] w fun e w' => e = .returned (.string ⟨(decDigits n).toArray⟩) ∧ w' = w := by
  intro n
  induction n using Nat.strongRecOn with
  | ind n ih =>
    intro w hn
    by_cases h : n < 10
    · have e := digit_at ⟨n, h⟩
      have e1 : ((n : Int) + 1).toNat = n + 1 := by omega
      simp only at e
      have sl : ∀ u, (Instr.slice 9 (.string ⟨#[48, 49, 50, 51, 52, 53, 54, 55, 56, 57]⟩) (some (.int .i64 n)) (some (.int .i64 (n + 1))) none).run Tryd.prog u = .ok (.string ⟨#[UInt8.ofNat (48 + n)]⟩) u := fun u => by
        have := run_slice_string (P := Tryd.prog) u 9 ⟨#[48, 49, 50, 51, 52, 53, 54, 55, 56, 57]⟩ .i64 .i64 n (n + 1) Tryd.underlying9 (by omega) (by omega) (by show (n : Int) + 1 ≤ 10; omega)
        rw [this, e1, Int.toNat_natCast, e]
      rw [Lib.decDigits_one h]
      have hi : (n : Int) < 10 := by omega
      clear ih e e1
      generalize UInt8.ofNat (48 + n) = dg at sl ⊢
      go_enter Tryd.func31, Tryd.ntmps31
      go_wp2_with fail
      go_ret
      exact ⟨rfl, rfl⟩
    · have c1 := fun u => ih (n / 10) (by omega) u (by omega)
      have c2 := fun u => ih (n % 10) (by omega) u (by omega)
      have z1 := dec_size (n / 10) (by omega)
      have z2 := dec_size (n % 10) (by omega)
      have E : Hid ((⟨(decDigits (n / 10)).toArray⟩ : ByteArray) ++ ⟨(decDigits (n % 10)).toArray⟩ = ⟨(decDigits n).toArray⟩) := by
        show _ = _
        apply bytes_ext
        have : decDigits n = decDigits (n / 10) ++ decDigits (n % 10) := by
          rw [Lib.decDigits_one (show n % 10 < 10 by omega)]
          conv => lhs; rw [Lib.decDigits, dif_neg h]
        simp [this]
      generalize (⟨(decDigits (n / 10)).toArray⟩ : ByteArray) = A at c1 z1 E
      generalize (⟨(decDigits (n % 10)).toArray⟩ : ByteArray) = B at c2 z2 E
      rw [show ((n / 10 : Nat) : Int) = (n : Int) / 10 by omega] at c1
      rw [show ((n % 10 : Nat) : Int) = (n : Int) % 10 by omega] at c2
      have hi : ¬ (n : Int) < 10 := by omega
      clear ih
      go_enter Tryd.func31, Tryd.ntmps31
      go_wp2_with fail
      refine (c1 _).mono ?_
      rintro e w1 ⟨rfl, rfl⟩
      go_wp2_with fail
      refine (c2 _).mono ?_
      rintro e w2 ⟨rfl, rfl⟩
      go_wp2_with fail
      go_ret
      exact ⟨by rw [E.out]; rfl, rfl⟩
theorem num_int (n : Int) (w : World) (h0 : 0 ≤ n) (h1 : n ≤ 1000000000) :
    Calls Tryd.prog 31 #[.int .i64 n] w fun e w' => e = .returned (.string ⟨(decDigits n.toNat).toArray⟩) ∧ w' = w := by
  obtain ⟨m, rfl⟩ := Int.eq_ofNat_of_zero_le h0
  exact num_any m w (by omega)
theorem adr_bytes (a : Int) (h0 : 0 ≤ a) (h1 : a ≤ 4294967295) : bt ⟨(adr a).toArray⟩ 0 = a / 16777216 % 256 ∧ bt ⟨(adr a).toArray⟩ 1 = a / 65536 % 256 ∧ bt ⟨(adr a).toArray⟩ 2 = a / 256 % 256 ∧ bt ⟨(adr a).toArray⟩ 3 = a % 256 := by
  have e : ∀ k, bt ⟨(adr a).toArray⟩ k = (((adr a).getD k 0).toNat : Int) := fun k => ipm.btl _ _
  refine ⟨?_, ?_, ?_, ?_⟩
  · rw [e]; show ((hi8 (a / 65536)).toNat : Int) = _; rw [hi8_at _ (by omega) (by omega)]; omega
  · rw [e]; show ((lo8 (a / 65536)).toNat : Int) = _; rw [lo8_at]
  · rw [e]; show ((hi8 (a % 65536)).toNat : Int) = _; rw [hi8_at _ (by omega) (by omega)]; omega
  · rw [e]; show ((lo8 (a % 65536)).toNat : Int) = _; rw [lo8_at]; omega
set_option maxHeartbeats 2000000 in
theorem addrText_any (a : Int) (w : World) (h0 : 0 ≤ a) (h1 : a ≤ 4294967295) :
    Calls Tryd.prog 12 #[.int .u32 a] w fun e w' => e = .returned (.string ⟨(shw a).toArray⟩) ∧ Below w.heap.size w w' := by
  have CL := fun u => long_ref a u h0 h1
  obtain ⟨e0, e1, e2, e3⟩ := adr_bytes a h0 h1
  have zS : (⟨(adr a).toArray⟩ : ByteArray).size = 4 := rfl
  have x0 : ∀ u, (Instr.index 9 (.string ⟨(adr a).toArray⟩) (.int .i64 0)).run Tryd.prog u = .ok (.int .u8 (a / 16777216 % 256)) u := fun u => by rw [← e0]; exact index_at _ 0 (by omega) u
  have x1 : ∀ u, (Instr.index 9 (.string ⟨(adr a).toArray⟩) (.int .i64 1)).run Tryd.prog u = .ok (.int .u8 (a / 65536 % 256)) u := fun u => by rw [← e1]; exact index_at _ 1 (by omega) u
  have x2 : ∀ u, (Instr.index 9 (.string ⟨(adr a).toArray⟩) (.int .i64 2)).run Tryd.prog u = .ok (.int .u8 (a / 256 % 256)) u := fun u => by rw [← e2]; exact index_at _ 2 (by omega) u
  have x3 : ∀ u, (Instr.index 9 (.string ⟨(adr a).toArray⟩) (.int .i64 3)).run Tryd.prog u = .ok (.int .u8 (a % 256)) u := fun u => by rw [← e3]; exact index_at _ 3 (by omega) u
  have C0 := fun u => num_int (a / 16777216 % 256) u (by omega) (by omega)
  have C1 := fun u => num_int (a / 65536 % 256) u (by omega) (by omega)
  have C2 := fun u => num_int (a / 256 % 256) u (by omega) (by omega)
  have C3 := fun u => num_int (a % 256) u (by omega) (by omega)
  have z0 := dec_size (a / 16777216 % 256).toNat (by omega)
  have z1 := dec_size (a / 65536 % 256).toNat (by omega)
  have z2 := dec_size (a / 256 % 256).toNat (by omega)
  have z3 := dec_size (a % 256).toNat (by omega)
  have E : Hid ((((((((⟨(decDigits (a / 16777216 % 256).toNat).toArray⟩ : ByteArray) ++ ⟨#[46]⟩) ++ ⟨(decDigits (a / 65536 % 256).toNat).toArray⟩) ++ ⟨#[46]⟩) ++ ⟨(decDigits (a / 256 % 256).toNat).toArray⟩) ++ ⟨#[46]⟩) ++ ⟨(decDigits (a % 256).toNat).toArray⟩) = ⟨(shw a).toArray⟩) := by
    show _ = _
    apply bytes_ext
    simp [shw]
  generalize (⟨(decDigits (a / 16777216 % 256).toNat).toArray⟩ : ByteArray) = A0 at C0 z0 E
  generalize (⟨(decDigits (a / 65536 % 256).toNat).toArray⟩ : ByteArray) = A1 at C1 z1 E
  generalize (⟨(decDigits (a / 256 % 256).toNat).toArray⟩ : ByteArray) = A2 at C2 z2 E
  generalize (⟨(decDigits (a % 256).toNat).toArray⟩ : ByteArray) = A3 at C3 z3 E
  generalize (⟨(adr a).toArray⟩ : ByteArray) = S at CL zS x0 x1 x2 x3
  have en : (⟨#[]⟩ : ByteArray) ++ A0 = A0 := by apply bytes_ext; simp
  have zS' : (S.size : Int) = 4 := by omega
  clear e0 e1 e2 e3 zS
  go_enter Tryd.func12, Tryd.ntmps12
  go_wp2_with fail
  refine (CL _).mono ?_
  rintro e w1 ⟨rfl, b1⟩
  clear CL
  go_wp2_with fail
  refine wp_loop_rounds 5 ?_
  rw [rounds_succ]
  go_wp2_with fail
  refine (C0 _).mono ?_
  rintro e w2 ⟨rfl, rfl⟩
  go_wp2_with fail
  rw [rounds_succ]
  go_wp2_with fail
  refine (C1 _).mono ?_
  rintro e w2 ⟨rfl, rfl⟩
  go_wp2_with fail
  rw [rounds_succ]
  go_wp2_with fail
  refine (C2 _).mono ?_
  rintro e w2 ⟨rfl, rfl⟩
  go_wp2_with fail
  rw [rounds_succ]
  go_wp2_with fail
  refine (C3 _).mono ?_
  rintro e w2 ⟨rfl, rfl⟩
  go_wp2_with fail
  rw [rounds_succ]
  go_wp2_with fail
  go_ret
  exact ⟨by rw [E.out]; rfl, b1⟩

theorem d3_digit : ∀ n : Fin 256, (d3 n.val).all (fun x => decide (48 ≤ x.toNat ∧ x.toNat ≤ 57)) = true := by decide +kernel
theorem d3_from : ∀ n : Fin 256, Lib.decFrom 0 (d3 n.val) = some n.val := by decide +kernel
/-- what ReadNum tells of a piece -/
structure Told (p : List UInt8) (n : Int) (b : Bool) : Prop where
  ok : okp p → b = true ∧ n = vp p
  back : b = true → 0 ≤ n → n ≤ 255 → okp p
  n0 : 0 ≤ n
set_option maxHeartbeats 2000000 in
theorem readNum_any (s : ByteArray) (w : World) (hs : s.size ≤ 281474976710656) :
    Calls Tryd.prog 28 #[.string s] w fun e w' => (∃ n b, e = .returned (.tuple #[.int .i64 n, .bool b]) ∧ Told s.data.toList n b) ∧ w' = w := by
  have hl : s.data.toList.length = s.size := size_list s
  by_cases h19 : 1 ≤ (s.size : Int) ∧ (s.size : Int) ≤ 9
  case neg =>
    have T : Told s.data.toList 0 false := ⟨fun ⟨n, hn, e⟩ => by
      have := d3_len ⟨n, hn⟩
      rw [e, dec_d3 n hn] at hl
      simp only at this
      omega, fun h => (by cases h), by omega⟩
    go_enter Tryd.func28, Tryd.ntmps28
    go_wp2_with fail
    refine (between_any _ _ _ _).mono ?_
    rintro e w1 ⟨rfl, rfl⟩
    rw [decide_eq_false h19]
    go_wp2_with fail
    go_ret2
    exact ⟨⟨0, false, rfl, T⟩, rfl⟩
  have h9 := h19.2
  have h1 := h19.1
  have HT : Hid (1 ≤ (s.size : Int) ∧ (s.size : Int) ≤ 9) := h19
  go_enter Tryd.func28, Tryd.ntmps28
  go_wp2_with fail
  refine (between_any _ _ _ _).mono ?_
  rintro e w1 ⟨rfl, hw⟩
  rw [decide_eq_true h19, hw]
  clear h19 hw
  go_wp2_with fail
  go_loopw [4, 12] (fun n i wr => ∃ (k m : Nat), k ≤ s.size ∧ i = .int .i64 k ∧ n = .int .i64 m ∧ Hid (Lib.decFrom 0 (s.data.toList.take k) = some m) ∧ (m : Int) < 1000000000 ∧ (k < s.size → (m : Int) < 100000000) ∧ wr = w) (fun _ i _ => s.size - (intOf i).toNat)
  case atStart => exact ⟨0, 0, by omega, rfl, rfl, (rfl : _ = _), by omega, fun _ => by omega, rfl⟩
  case round =>
    obtain ⟨k, m, hk, rfl, rfl, hd, hm9, hm8, hwr⟩ := hrel
    rw [hwr]
    clear hwr
    by_cases hlt : k < s.size
    · have m8 := hm8 hlt
      have hix := index_at s k hlt
      have bb := bt_bd s k
      have ek : s.data.toList[k]? = some (s.data.toList.getD k 0) := by
        rw [List.getD_eq_getElem?_getD, List.getElem?_eq_getElem (by omega)]; rfl
      have eb : bt s k = ((s.data.toList.getD k 0).toNat : Int) := rfl
      have hki : (k : Int) < s.size := by omega
      by_cases dg : 48 ≤ bt s k ∧ bt s k ≤ 57
      · have dv : Lib.digitVal (s.data.toList.getD k 0) = some ((s.data.toList.getD k 0).toNat - 48) := by
          unfold Lib.digitVal; rw [if_pos (by omega)]
        have nx := Lib.decFrom_take s.data.toList k 0 m _ _ hd.out ek dv
        have ev : ((m * 10 + ((s.data.toList.getD k 0).toNat - 48) : Nat) : Int) = 10 * (m : Int) + bt s k - 48 := by rw [eb]; omega
        have lt := Lib.decFrom_lt _ _ _ nx
        have HX : Hid (Lib.decFrom 0 (s.data.toList.take (k + 1)) = some (m * 10 + ((s.data.toList.getD k 0).toNat - 48))) := nx
        have LT : Hid (m * 10 + ((s.data.toList.getD k 0).toNat - 48) < 10 ^ (k + 1)) := by
          show _ < _
          rw [List.length_take, hl, Nat.min_eq_left (by omega)] at lt
          simpa using lt
        generalize m * 10 + ((s.data.toList.getD k 0).toNat - 48) = m' at HX LT ev
        have EV : Hid ((m' : Int) = 10 * (m : Int) + bt s k - 48) := ev
        clear nx lt ev dv ek eb
        go_wp2_with fail
        refine (between_any _ _ _ _).mono ?_
        rintro e w1 ⟨rfl, hw⟩
        rw [decide_eq_true dg, hw]
        clear hw
        go_wp2_with fail
        go_roundw
        case rel =>
          have p9 : 10 ^ (k + 1) ≤ 10 ^ 9 := Nat.pow_le_pow_right (by omega) (by omega)
          have lt := LT.out
          refine ⟨k + 1, m', by omega, by go_num, by rw [EV.out], HX.out, by omega, fun hk2 => ?_, trivial⟩
          have p8 : 10 ^ (k + 1) ≤ 10 ^ 8 := Nat.pow_le_pow_right (by omega) (by omega)
          omega
        case measure => simp [intOf]; omega
      · have T : Told s.data.toList 0 false := ⟨fun ⟨n, hn, e⟩ => by
          have a := List.all_eq_true.1 (d3_digit ⟨n, hn⟩) (s.data.toList.getD k 0) (by
            rw [← dec_d3 n hn, ← e]
            exact List.mem_of_getElem? ek)
          have a' := of_decide_eq_true a
          omega, fun h => (by cases h), by omega⟩
        clear ek eb
        go_wp2_with fail
        refine (between_any _ _ _ _).mono ?_
        rintro e w1 ⟨rfl, rfl⟩
        rw [decide_eq_false dg]
        go_wp2_with fail
        go_ret2
        exact ⟨⟨0, false, rfl, T⟩, rfl⟩
    · have ek : k = s.size := by omega
      have hd' : Lib.decFrom 0 s.data.toList = some m := by
        have := hd.out
        rwa [ek, List.take_of_length_le (by omega)] at this
      have CN := fun u => num_any m u (by omega)
      have hge : ¬ (k : Int) < s.size := by omega
      have T : Hid (Told s.data.toList m ((⟨(decDigits m).toArray⟩ : ByteArray).toList == s.toList)) := by
        refine ⟨fun ⟨n, hn, e⟩ => ?_, fun hb h0 h1 => ?_, by omega⟩
        · have := d3_from ⟨n, hn⟩
          rw [← dec_d3 n hn, ← e, hd'] at this
          have hm : m = n := by simpa using this
          subst hm
          refine ⟨?_, ?_⟩
          · rw [beq_iff_eq, ByteArray.toList_eq, ByteArray.toList_eq, e]
          · rw [e, vp_dec m hn]
        · rw [beq_iff_eq, ByteArray.toList_eq, ByteArray.toList_eq] at hb
          exact ⟨m, by omega, hb.symm⟩
      clear hd hd' ek
      generalize (⟨(decDigits m).toArray⟩ : ByteArray) = N at CN T
      go_wp2_with fail
      refine (CN _).mono ?_
      rintro e w1 ⟨rfl, rfl⟩
      go_wp2_with fail
      go_ret2
      exact ⟨⟨m, _, rfl, T.out⟩, rfl⟩
end Go.Proofs.YtedbjhpajpakpaaDoor.ipn
