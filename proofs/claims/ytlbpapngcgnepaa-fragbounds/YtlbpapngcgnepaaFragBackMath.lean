/- Plain mathematics of feeding a packet's pieces, in whatever order: the heap holds those that came, sorted; with the last of them the packet is told. -/
import Derived.Test.YtlbpapngcgnepaaFragFeed
import Derived.Test.YtlbpapngcgnepaaFragMath
namespace Go.Proofs.Ytlbpapngcgnepaa.frbm
open Go.Proofs.Ytlbpapngcgnepaa Go.Proofs.Ytlbpapngcgnepaa.ipb Go.Proofs.Ytlbpapngcgnepaa.frb Go.Proofs.Ytlbpapngcgnepaa.frp Go.Proofs.Ytlbpapngcgnepaa.pl Go.Proofs.Ytlbpapngcgnepaa.frx Go.Proofs.Ytlbpapngcgnepaa.frh Go.Proofs.Ytlbpapngcgnepaa.frf2 Go.Proofs.Ytlbpapngcgnepaa.frha Go.Proofs.Ytlbpapngcgnepaa.frpu Go.Proofs.Ytlbpapngcgnepaa.frw Go.Proofs.Ytlbpapngcgnepaa.frj Go.Proofs.Ytlbpapngcgnepaa.frt Go.Proofs.Ytlbpapngcgnepaa.frfe Go.Proofs.Ytlbpapngcgnepaa.frm

/-- a packet that is split into pieces of z bytes -/
structure Env (p : Pk) (z : Nat) : Prop where
  z0 : 0 < z
  z8 : z % 8 = 0
  n1 : p.d.size ≤ 65515
  N2 : 2 ≤ npc z p.d.size
  N64 : npc z p.d.size ≤ 64
  mo : p.mo = false
  st : p.st = 0
  wh : p.wh = false
  ok : ∀ k, k < npc z p.d.size → (pc p z k).err = 0
/-- the part of piece k -/
def pt (p : Pk) (z k : Nat) : Pt := ptOf (pc p z k)
theorem succ_mul (z k : Nat) : (k + 1) * z = k * z + z := by rw [Nat.add_mul, Nat.one_mul]
section
variable {p : Pk} {z : Nat} (h : Env p z)
include h
theorem mul8 (k : Nat) : 8 * (k * z / 8) = k * z := by
  have : k * z % 8 = 0 := by rw [Nat.mul_mod, h.z8]; simp
  omega
theorem pt_a (k : Nat) : (pt p z k).a = ((k * z : Nat) : Int) := by
  have := mul8 h k
  show 8 * (p.st + ((k * z / 8 : Nat) : Int)) = _
  rw [h.st]; omega
theorem lt_n (k : Nat) (hk : k < npc z p.d.size) : k * z < p.d.size := (npc_lt h.z0).1 hk
theorem pt_d (k : Nat) (hk : k < npc z p.d.size) : (pt p z k).d.size = min (k * z + z) p.d.size - k * z := by
  have := lt_n h k hk
  show (p.d.extract (k * z) (min (k * z + z) p.d.size)).size = _
  rw [ByteArray.size_extract]; omega
theorem pt_e (k : Nat) (hk : k < npc z p.d.size) : (pt p z k).e = ((min (k * z + z) p.d.size : Nat) : Int) := by
  have := lt_n h k hk
  have e := pt_d h k hk
  unfold Pt.e
  rw [pt_a h, e]; omega
theorem pt_la (k : Nat) (hk : k < npc z p.d.size) : (pt p z k).la = true ↔ k + 1 = npc z p.d.size := by
  have e : (pt p z k).la = !(p.mo || decide (k * z + z < p.d.size)) := rfl
  have hl : k + 1 < npc z p.d.size ↔ k * z + z < p.d.size := by rw [npc_lt h.z0, succ_mul]
  rw [e, h.mo, Bool.false_or]
  constructor
  · intro hh
    have : ¬ k * z + z < p.d.size := by simpa using hh
    rw [← hl] at this; omega
  · intro hh
    have : ¬ k * z + z < p.d.size := by rw [← hl]; omega
    simpa using this
theorem a_lt (i k : Nat) : (pt p z i).a < (pt p z k).a ↔ i < k := by
  rw [pt_a h, pt_a h]
  constructor
  · intro hh
    have : i * z < k * z := by omega
    exact Nat.lt_of_mul_lt_mul_right this
  · intro hh
    have := Nat.mul_lt_mul_of_pos_right hh h.z0
    omega
theorem e_le (i k : Nat) (hi : i < npc z p.d.size) (hik : i < k) : (pt p z i).e ≤ (pt p z k).a := by
  rw [pt_e h i hi, pt_a h]
  have : (i + 1) * z ≤ k * z := Nat.mul_le_mul_right z hik
  rw [succ_mul] at this
  omega
theorem pt_inj (i k : Nat) (e : pt p z i = pt p z k) : i = k := by
  have a := a_lt h i k
  have b := a_lt h k i
  rw [e] at a b
  omega
theorem pt_ok (k : Nat) (hk : k < npc z p.d.size) : (pt p z k).ok = true := by
  have hl := lt_n h k hk
  have e8 := mul8 h k
  have ed := pt_d h k hk
  have n1 := h.n1
  have z0 := h.z0
  have hla := pt_la h k hk
  have z8 := h.z8
  simp only [Pt.ok, Bool.and_eq_true, decide_eq_true_eq, dok, Bool.or_eq_true]
  refine ⟨?_, ?_, ?_, ?_, ?_⟩
  · rw [pt_a h]; omega
  · rw [pt_a h]; omega
  · rw [pt_e h k hk]; omega
  · rw [ed]; omega
  · by_cases hh : k + 1 = npc z p.d.size
    · exact Or.inl (hla.2 hh)
    · right
      have : k + 1 < npc z p.d.size := by omega
      rw [npc_lt h.z0, succ_mul] at this
      rw [ed]; omega
theorem cl_off (i k : Nat) (hi : i < npc z p.d.size) (hk : k < npc z p.d.size) (hne : i ≠ k) : cl (pt p z k) (pt p z i) = false := by
  have l1 := pt_la h i hi
  have l2 := pt_la h k hk
  have a1 := a_lt h i k
  have a2 := a_lt h k i
  unfold cl
  rcases Nat.lt_or_gt_of_ne hne with hlt | hlt
  · have := e_le h i k hi hlt
    have f2 : ¬ (pt p z k).a < (pt p z i).e := by omega
    have f3 : (pt p z i).la = false := by
      cases hx : (pt p z i).la
      · rfl
      · have := l1.1 hx; omega
    have f4 : ¬ (pt p z k).a < (pt p z i).a := by omega
    simp [f2, f3, f4]
  · have := e_le h k i hk hlt
    have f2 : ¬ (pt p z i).a < (pt p z k).e := by omega
    have f3 : (pt p z k).la = false := by
      cases hx : (pt p z k).la
      · rfl
      · have := l2.1 hx; omega
    have f4 : ¬ (pt p z i).a < (pt p z k).a := by omega
    simp [f2, f3, f4]
end
/-- k among numbers that rise -/
def insI (k : Nat) : List Nat → List Nat
  | [] => [k]
  | i :: r => if i < k then i :: insI k r else k :: i :: r
theorem ins_mem (k : Nat) : ∀ (I : List Nat) (x : Nat), x ∈ insI k I ↔ x = k ∨ x ∈ I
  | [], x => by simp [insI]
  | i :: r, x => by
    unfold insI
    split
    · rw [List.mem_cons, ins_mem k r, List.mem_cons]
      constructor
      · rintro (h | h | h) <;> simp [h]
      · rintro (h | h | h) <;> simp [h]
    · simp
theorem ins_sorted (k : Nat) : ∀ (I : List Nat), I.Pairwise (· < ·) → k ∉ I → (insI k I).Pairwise (· < ·)
  | [], _, _ => by simp [insI]
  | i :: r, hs, hk => by
    obtain ⟨h1, h2⟩ := List.pairwise_cons.1 hs
    have hki : k ≠ i := fun e => hk (by simp [e])
    have hkr : k ∉ r := fun e => hk (by simp [e])
    unfold insI
    split
    · rename_i hlt
      refine List.pairwise_cons.2 ⟨fun x hx => ?_, ins_sorted k r h2 hkr⟩
      rcases (ins_mem k r x).1 hx with rfl | hx
      · exact hlt
      · exact h1 x hx
    · rename_i hlt
      refine List.pairwise_cons.2 ⟨fun x hx => ?_, hs⟩
      rcases List.mem_cons.1 hx with rfl | hx
      · omega
      · have := h1 x hx; omega
theorem ins_ne (k : Nat) (I : List Nat) : insI k I ≠ [] := by
  cases I with
  | nil => simp [insI]
  | cons i r => unfold insI; split <;> simp
/-- numbers that rise, from c to below N, are no more than those -/
theorem len_le (N : Nat) : ∀ (I : List Nat) (c : Nat), I.Pairwise (· < ·) → (∀ x ∈ I, c ≤ x ∧ x < N) → I.length ≤ N - c
  | [], c, _, _ => Nat.zero_le _
  | i :: r, c, hs, hb => by
    obtain ⟨h1, h2⟩ := List.pairwise_cons.1 hs
    have hi := hb i (by simp)
    have := len_le N r (i + 1) h2 fun x hx => ⟨h1 x hx, (hb x (by simp [hx])).2⟩
    simp only [List.length_cons]; omega
/-- those that came: rising numbers -/
structure Ix (p : Pk) (z : Nat) (I : List Nat) : Prop where
  s : I.Pairwise (· < ·)
  b : ∀ x ∈ I, x < npc z p.d.size
theorem Ix.ins {p : Pk} {z : Nat} {I : List Nat} (h : Ix p z I) {k : Nat} (hk : k < npc z p.d.size) (hn : k ∉ I) : Ix p z (insI k I) :=
  ⟨ins_sorted k I h.s hn, fun x hx => by
    rcases (ins_mem k I x).1 hx with rfl | hx
    · exact hk
    · exact h.b x hx⟩
theorem put_cons (o : Pt) (r : List Pt) (q : Pt) : putIn (o :: r) q = if o.a < q.a then o :: putIn r q else q :: o :: r := by
  unfold putIn
  by_cases hh : o.a < q.a
  · rw [if_pos hh]; simp [pos, hh]
  · rw [if_neg hh]; simp [pos, hh]
section
variable {p : Pk} {z : Nat} (h : Env p z)
include h
theorem put_ins (k : Nat) : ∀ I : List Nat, putIn (I.map (pt p z)) (pt p z k) = (insI k I).map (pt p z)
  | [] => rfl
  | i :: r => by
    rw [List.map_cons, put_cons, put_ins k r, show insI k (i :: r) = if i < k then i :: insI k r else k :: i :: r from rfl]
    by_cases hh : i < k
    · rw [if_pos ((a_lt h i k).2 hh), if_pos hh]; rfl
    · rw [if_neg (fun e => hh ((a_lt h i k).1 e)), if_neg hh]; rfl
theorem has_iff (I : List Nat) (k : Nat) : (I.map (pt p z)).any (ptb (pt p z k)) = true ↔ k ∈ I := by
  rw [List.any_eq_true]
  constructor
  · rintro ⟨x, hx, hb⟩
    obtain ⟨i, hi, rfl⟩ := List.mem_map.1 hx
    have := pt_inj h k i ((ptb_iff _ _).1 hb)
    rw [this]; exact hi
  · intro hk
    exact ⟨_, List.mem_map.2 ⟨k, hk, rfl⟩, (ptb_iff _ _).2 rfl⟩
theorem rfs_zero {I : List Nat} (hI : Ix p z I) {k : Nat} (hk : k < npc z p.d.size) (hn : k ∉ I) : rfs (I.map (pt p z)) (pt p z k) = 0 := by
  have hl := len_le (npc z p.d.size) (insI k I) 0 (hI.ins hk hn).s fun x hx => ⟨Nat.zero_le _, (hI.ins hk hn).b x hx⟩
  have e : (insI k I).length = I.length + 1 := by
    have := congrArg List.length (put_ins h k I)
    rw [List.length_map] at this
    rw [← this]; unfold putIn
    have := pos_le (pt p z k) (I.map (pt p z))
    simp only [List.length_append, List.length_take, List.length_cons, List.length_drop, List.length_map] at this ⊢
    omega
  have := h.N64
  unfold rfs
  rw [if_neg, if_neg (by rw [List.length_map]; omega)]
  rw [Bool.not_eq_true, List.any_eq_false]
  intro x hx
  obtain ⟨i, hi, rfl⟩ := List.mem_map.1 hx
  have := cl_off h i k (hI.b i hi) hk (fun e => hn (e ▸ hi))
  rw [this]; decide
end
end Go.Proofs.Ytlbpapngcgnepaa.frbm
