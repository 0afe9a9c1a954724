/- What custref.PoolRight's closure and slices.ContainsFunc answer; plain mathematics of its walk over parts. -/
import Derived.Test.YtlbpapngcgnepaaFragCheck
namespace Go.Proofs.Ytlbpapngcgnepaa.frrr
open Go.ChangeShapes Go.WideShapes Go.ChangeAt Go.RowKit Go.BigFrame Go.Shelf
open Go.Proofs.Ytlbpapngcgnepaa Go.Proofs.Ytlbpapngcgnepaa.ipb Go.Proofs.Ytlbpapngcgnepaa.boxes Go.Proofs.Ytlbpapngcgnepaa.ipr Go.Proofs.Ytlbpapngcgnepaa.frb Go.Proofs.Ytlbpapngcgnepaa.frs Go.Proofs.Ytlbpapngcgnepaa.frp Go.Proofs.Ytlbpapngcgnepaa.frx Go.Proofs.Ytlbpapngcgnepaa.frr Go.Proofs.Ytlbpapngcgnepaa.frc
open Go.Proofs.Ytlbpapngcgnepaa.rws (Own Knd)

/-- the parts from here on, the next one not ahead of at -/
def rr : Int → List Pt → Bool
  | _, [] => true
  | t, p :: r => ((decide (p.d.size ≠ 0) && (decide (t ≤ p.a) && (decide (p.a % 8 = 0) && decide (p.e ≤ 65515)))) && ((!p.la || r.isEmpty) && (p.la || decide (p.d.size % 8 = 0)))) && rr p.e r
theorem rr_iff : ∀ (ps : List Pt) (t : Int), 0 ≤ t → (rr t ps = true ↔ ps = [] ∨ ∃ p r, ps = p :: r ∧ t ≤ p.a ∧ psok ps = true)
  | [], t, _ => by simp [rr]
  | p :: r, t, ht => by
    have key : rr t (p :: r) = true ↔ (p.d.size ≠ 0 ∧ t ≤ p.a ∧ p.a % 8 = 0 ∧ p.e ≤ 65515) ∧ ((p.la = false ∨ r = []) ∧ (p.la = true ∨ p.d.size % 8 = 0)) ∧ rr p.e r = true := by
      simp [rr, and_assoc]
    have k2 : psok (p :: r) = true ↔ (0 ≤ p.a ∧ p.a % 8 = 0 ∧ p.e ≤ 65515 ∧ p.d.size ≠ 0 ∧ (p.la = true ∨ p.d.size % 8 = 0)) ∧ folls p r = true := by
      simp [psok, Pt.ok, dok]
    rw [key]
    constructor
    · rintro ⟨⟨a1, a2, a3, a4⟩, ⟨b1, b2⟩, c⟩
      refine Or.inr ⟨p, r, rfl, a2, k2.2 ⟨⟨by omega, a3, a4, a1, b2⟩, ?_⟩⟩
      have pe : 0 ≤ p.e := by unfold Pt.e; omega
      rcases (rr_iff r p.e pe).1 c with rfl | ⟨q, s, rfl, h1, h2⟩
      · rfl
      · have hla : p.la = false := by
          rcases b1 with b1 | b1
          · exact b1
          · simp at b1
        simp only [folls, fol, Bool.and_eq_true, decide_eq_true_eq, Bool.not_eq_true']
        simp only [psok, Bool.and_eq_true] at h2
        exact ⟨⟨h2.1, hla, h1⟩, h2.2⟩
    · rintro (h | ⟨p', r', e, h1, h2⟩)
      · simp at h
      · simp only [List.cons.injEq] at e
        obtain ⟨rfl, rfl⟩ := e
        obtain ⟨⟨a0, a3, a4, a1, b2⟩, hf⟩ := k2.1 h2
        have pe : 0 ≤ p.e := by unfold Pt.e; omega
        refine ⟨⟨a1, h1, a3, a4⟩, ⟨?_, b2⟩, ?_⟩
        · cases r with
          | nil => exact Or.inr rfl
          | cons q s =>
            simp only [folls, fol, Bool.and_eq_true, Bool.not_eq_true'] at hf
            exact Or.inl hf.1.2.1
        · rw [rr_iff r p.e pe]
          cases r with
          | nil => exact Or.inl rfl
          | cons q s =>
            simp only [folls, fol, Bool.and_eq_true, decide_eq_true_eq, Bool.not_eq_true'] at hf
            refine Or.inr ⟨q, s, rfl, hf.1.2.2, ?_⟩
            simp only [psok, Bool.and_eq_true]
            exact ⟨hf.1.1, hf.2⟩
/-- a heap is right just if its parts are, and its head -/
theorem hp_ok (h : Hd) (ps : List Pt) : Hp.ok ⟨h, ps⟩ = true ↔ rr 0 ps = true ∧ ∃ p r, ps = p :: r ∧ (p.a = 0 ∨ hdz h = true) := by
  have := rr_iff ps 0 (by omega)
  rw [this]
  cases ps with
  | nil => simp [Hp.ok]
  | cons p r =>
    have e : Hp.ok ⟨h, p :: r⟩ = true ↔ psok (p :: r) = true ∧ (p.a = 0 ∨ hdz h = true) := by simp [Hp.ok]
    rw [e]
    constructor
    · rintro ⟨a, b⟩
      refine ⟨Or.inr ⟨p, r, rfl, ?_, a⟩, p, r, rfl, b⟩
      have := a
      simp [psok, Pt.ok] at this
      exact this.1.1
    · rintro ⟨a, p', r', e, b⟩
      simp only [List.cons.injEq] at e
      obtain ⟨rfl, rfl⟩ := e
      rcases a with a | ⟨_, _, _, _, a⟩
      · simp at a
      · exact ⟨a, b⟩
theorem big_pred (w : World) : PredBelow Try.prog 38 #[] (fun x : Hv => .agg x.cells.toList.toArray) (fun x => decide (64 < (x.sn : Int))) w := fun W x hb => by
  have b1 := hb.alloc hb.size (.cells x.cells 46)
  show Calls Try.prog 38 #[.agg x.cells] W fun e w' => e = .returned (.bool (decide (64 < (x.sn : Int)))) ∧ _
  obtain ⟨⟨h0, h1, h2, h3, h4, h5, h6⟩, sa, sn, sc⟩ := x
  go_enter Try.func38, Try.ntmps38
  go_wp2_with fail
  go_ret
  exact ⟨rfl, b1⟩
theorem big_any (b off sc : Nat) (X : List Hv) (w : World) (hm : X.length ≤ 9223372036854775807) (hb : b < w.heap.size) (hx : ∀ (j : Nat) x, X[j]? = some x → ∀ i, i < 8 → w.cell? ⟨b, off + j * 8 + i, none⟩ = x.cells[i]?) :
    Calls Try.prog 37 #[.slice (some ⟨b, off, none⟩) X.length sc, .func (.func 38) #[] #[]] w fun e w' => e = .returned (.bool (X.any fun x => decide (64 < (x.sn : Int)))) ∧ Below w.heap.size w w' := by
  have eg : ∀ args w, (callFunc 38 args).run Try.prog w = .ok (.enter 38 args) w := enters_of Try.func38 (by kernel_rfl) rfl
  refine (AnyQ.slices_ContainsFunc Try.anyHp 8 Try.isAgg46 Try.sizeOf46 (fun x : Hv => x.cells.toList) (fun _ => rfl) (fun x => decide (64 < (x.sn : Int))) 38 #[] eg b off X.length sc X w (big_pred w) (Nat.le_refl _) hm hb (rd_cells (K := HK) hx)).mono ?_
  rintro e w' ⟨rfl, hb⟩
  rw [List.take_length]
  exact ⟨rfl, hb⟩
end Go.Proofs.Ytlbpapngcgnepaa.frrr
