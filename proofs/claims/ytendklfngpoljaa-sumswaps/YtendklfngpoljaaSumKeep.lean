/- What the laws' own helpers answer: sumLives is true, word is a number's two bytes. -/
import Derived.Test.YtendklfngpoljaaSumWalk
import Derived.Laws.BytesArg
namespace Go.Proofs.Ytendklfngpoljaa.sumk
open Go.ChangeShapes Go.WideShapes Go.ChangeAt Go.RowKit
open Go.Proofs.Ytendklfngpoljaa.SM Go.Proofs.Ytendklfngpoljaa.sumw

theorem of_known (w : World) :
    Calls Try.prog 13 #[.string ⟨#[0, 1, 242, 3, 244, 245, 246, 247]⟩] w fun e w' => e = .returned (.int .u16 8717) ∧ Qd w w' := by
  have h := of_any ⟨#[0, 1, 242, 3, 244, 245, 246, 247]⟩ w (by decide)
  have e : 65535 - wsum 0 (ByteArray.mk #[0, 1, 242, 3, 244, 245, 246, 247]).data.toList = 8717 := by decide
  rw [e] at h; exact h
theorem right_known (w : World) :
    Calls Try.prog 15 #[.string ⟨#[255, 255]⟩] w fun e w' => e = .returned (.bool true) ∧ Qd w w' := by
  have h := right_any ⟨#[255, 255]⟩ w (by decide)
  have e : (wsum 0 (ByteArray.mk #[255, 255]).data.toList == 65535) = true := by decide
  rw [e] at h; exact h
theorem right_empty (w : World) :
    Calls Try.prog 15 #[.string ⟨#[]⟩] w fun e w' => e = .returned (.bool false) ∧ Qd w w' := by
  have h := right_any ⟨#[]⟩ w (by decide)
  have e : (wsum 0 (ByteArray.mk #[]).data.toList == 65535) = false := by decide
  rw [e] at h; exact h
theorem fix_known (w : World) :
    Calls Try.prog 16 #[.int .u16 8717, .int .u16 61955, .int .u16 61955] w fun e w' => e = .returned (.int .u16 8717) ∧ w' = w := by
  have h := fix_any 8717 61955 61955 w (by decide) (by decide) (by decide) (by decide) (by decide) (by decide)
  have e : 65535 - ea (ea (65535 - 8717) (65535 - 61955)) 61955 = 8717 := by decide
  rw [e] at h; exact h
theorem lives (w : World) :
    Calls Try.prog 17 #[] w fun e w' => e = .returned (.bool true) ∧ Qd w w' := by
  go_enter Try.func17, Try.ntmps17
  go_wp2_with fail
  refine (of_known _).mono ?_
  rintro e w1 ⟨rfl, q1⟩
  go_wp2_with fail
  refine (right_known _).mono ?_
  rintro e w2 ⟨rfl, q2⟩
  go_wp2_with fail
  refine (right_empty _).mono ?_
  rintro e w3 ⟨rfl, q3⟩
  go_wp2_with fail
  refine (fix_known _).mono ?_
  rintro e w4 ⟨rfl, rfl⟩
  go_wp2_with fail
  go_ret
  exact ⟨rfl, (q1.trans q2).trans q3⟩

/-- a word as two bytes -/
def wb (n : Int) : ByteArray := strOfNums [n / 256, n % 256]
theorem wb_data (n : Int) : (wb n).data.toList = [UInt8.ofNat (n / 256).toNat, UInt8.ofNat (n % 256).toNat] := rfl
theorem wb_size (n : Int) : (wb n).size = 2 := rfl
theorem pw_wb (n : Int) (h0 : 0 ≤ n) (h1 : n ≤ 65535) : pw (wb n).data.toList = n := by
  rw [wb_data]; simp only [pw]
  have e1 : (UInt8.ofNat (n / 256).toNat).toNat = (n / 256).toNat := by rw [UInt8.toNat_ofNat']; omega
  have e2 : (UInt8.ofNat (n % 256).toNat).toNat = (n % 256).toNat := by rw [UInt8.toNat_ofNat']; omega
  rw [e1, e2]; omega
theorem word_any (n : Int) (w : World) (h0 : 0 ≤ n) (h1 : n ≤ 65535) :
    Calls Try.prog 18 #[.int .u16 n] w fun e w' => e = .returned (.string (wb n)) ∧ w' = w.alloc (.cells #[.int .u8 (n / 256), .int .u8 (n % 256)] 5) := by
  have hcv : (convert 40 9 (.slice (some ⟨w.heap.size, 0, none⟩) 2 2)).run Try.prog (w.alloc (.cells #[.int .u8 (n / 256), .int .u8 (n % 256)] 5)) = .ok (.string (wb n)) (w.alloc (.cells #[.int .u8 (n / 256), .int .u8 (n % 256)] 5)) := by
    refine run_convert_bytes_arg _ 40 5 Try.underlying40 Try.underlying5 w.heap.size 0 2 2 [n / 256, n % 256] rfl ?_ 9 Try.underlying9
    intro i hi
    match i, hi with
    | 0, _ => simp
    | 1, _ => simp
  go_enter Try.func18, Try.ntmps18
  go_wp2_with fail
  go_ret
  exact ⟨rfl, rfl⟩
end Go.Proofs.Ytendklfngpoljaa.sumk
