/- What strings.Count answers for a text of one byte: how many of its bytes are that byte. -/
import Derived.Test.YtendklfngpoljaaSumWalk
import Derived.Lib.Bytealg
import Derived.Laws.Externs
namespace Go.Proofs.Ytendklfngpoljaa.sumc
open Go.ChangeShapes Go.WideShapes Go.ChangeAt Go.RowKit
open Go.Proofs.Ytendklfngpoljaa.SM Go.Proofs.Ytendklfngpoljaa.sumw

theorem count_zero (s : ByteArray) (w : World) :
    Calls Try.prog 19 #[.string s, .string ⟨#[0]⟩] w fun e w' => e = .returned (.int .i64 (s.data.toList.count 0 : Nat)) ∧ w' = w := by
  go_enter Try.func19, Try.ntmps19
  go_wp2
  rw [run_callFunc_extern Try.func25 (by kernel_rfl) (by kernel_rfl) (by kernel_rfl) (e := Extern.BytealgCount.count) (by kernel_rfl), Lib.run_countString]
  simp only [Result.andThen]
  rw [Oper.upon_value]
  go_wp2
  go_ret
  exact ⟨rfl, rfl⟩

/-- all bytes are 0 just if so many are: then the words' sum is 0, and else it is more -/
theorem count_le : ∀ l : List UInt8, l.count 0 ≤ l.length := fun _ => List.count_le_length
theorem pw_zero : ∀ l : List UInt8, l.count 0 = l.length → pw l = 0
  | [], _ => rfl
  | [b], h => by
      have : b = 0 := by
        rcases Decidable.em (b = 0) with e | e
        · exact e
        · simp [e] at h
      subst this; rfl
  | b :: c :: r, h => by
      have hr := count_le r
      have e1 : b = 0 := by
        rcases Decidable.em (b = 0) with e | e
        · exact e
        · have h2 := count_le (c :: r)
          rw [List.count_cons_of_ne (by simpa using e)] at h
          simp only [List.length_cons] at h h2; omega
      have e2 : c = 0 := by
        rcases Decidable.em (c = 0) with e | e
        · exact e
        · subst e1
          rw [List.count_cons_self, List.count_cons_of_ne (by simpa using e)] at h
          simp only [List.length_cons] at h; omega
      subst e1 e2
      have h3 : r.count 0 = r.length := by
        rw [List.count_cons_self, List.count_cons_self] at h
        simp only [List.length_cons] at h; omega
      simp only [pw]; rw [pw_zero r h3]; decide
theorem pw_pos : ∀ l : List UInt8, l.count 0 ≠ l.length → 0 < pw l
  | [], h => by simp at h
  | [b], h => by
      have : b ≠ 0 := by intro e; subst e; simp at h
      have : b.toNat ≠ 0 := fun e => this (by apply UInt8.toNat_inj.1; simpa using e)
      simp only [pw]; omega
  | b :: c :: r, h => by
      have hr := pw_nonneg r
      simp only [pw]
      rcases Decidable.em (b = 0) with e | e
      · rcases Decidable.em (c = 0) with e' | e'
        · subst e e'
          have h3 : r.count 0 ≠ r.length := by
            intro h3; apply h
            rw [List.count_cons_self, List.count_cons_self, h3]; simp
          have := pw_pos r h3
          have z : (0 : UInt8).toNat = 0 := rfl
          rw [z]; omega
        · have : c.toNat ≠ 0 := fun x => e' (by apply UInt8.toNat_inj.1; simpa using x)
          omega
      · have : b.toNat ≠ 0 := fun x => e (by apply UInt8.toNat_inj.1; simpa using x)
        omega
end Go.Proofs.Ytendklfngpoljaa.sumc
