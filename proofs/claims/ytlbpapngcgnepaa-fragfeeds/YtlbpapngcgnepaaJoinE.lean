/- ArgsIp, ArgsRows, ArgsPool, joined. -/
import Derived.Test.YtlbpapngcgnepaaJoinA
import Derived.Lib.SmallJoins
import Derived.SizedLaws
import Derived.ChangeSlices
import Derived.OpenShut
/- A packet that came in as an argument: its cells, and how great its texts may be. -/
namespace Go.Proofs.Ytlbpapngcgnepaa.argsi
open Go.ChangeShapes Go.WideShapes Go.ChangeAt Go.RowKit
open Go.Proofs.Ytlbpapngcgnepaa.ipb

section
variable {H : Type} {enc : TypeId × Value → H} {w : World} {base : Nat} {spare : Nat → Bool} {held : Bool}
theorem array11 {α : Type} {cs : Array α} (h : cs.size = 11) : ∃ c0 c1 c2 c3 c4 c5 c6 c7 c8 c9 c10, cs = #[c0, c1, c2, c3, c4, c5, c6, c7, c8, c9, c10] := by
  obtain ⟨l⟩ := cs
  match l, h with
  | [c0, c1, c2, c3, c4, c5, c6, c7, c8, c9, c10], _ => exact ⟨c0, c1, c2, c3, c4, c5, c6, c7, c8, c9, c10, rfl⟩
theorem bounds_u32 {n : Int} (h : (Lit.int .u32 n).wf = true) : 0 ≤ n ∧ n ≤ 4294967295 := by
  simp [Lit.wf, IntKind.min, IntKind.max, IntKind.signed, IntKind.bits] at h
  omega
theorem bounds_i64 {n : Int} (h : (Lit.int .i64 n).wf = true) : -9223372036854775808 ≤ n ∧ n ≤ 9223372036854775807 := by
  simp [Lit.wf, IntKind.min, IntKind.max, IntKind.signed, IntKind.bits] at h
  omega
set_option maxRecDepth 100000 in
/-- a packet's texts stand among what is weighed -/
theorem open_packet {r : Reach} {b0 : Nat} {v : Value} {d' : DataW H} {p : List MemPlace} (hv : Value.okWide Try.prog w r b0 24 v) (h : DataW.Trod enc Try.prog w base spare held 24 v d' p) :
    ∃ P : Pk, v = .agg P.cells ∧ P.Adr ∧ ∀ m : Nat, (d'.weights Try.prog 24).all (· ≤ m) = true → P.o.size ≤ m ∧ P.d.size ≤ m := by
  have k11 : Try.prog.cellsOf 24 = 11 := by kernel_rfl
  have ki : Try.prog.cellsOf 3 = 1 := by kernel_rfl
  have kb : Try.prog.cellsOf 4 = 1 := by kernel_rfl
  have ku : Try.prog.cellsOf 22 = 1 := by kernel_rfl
  have ks : Try.prog.cellsOf 9 = 1 := by kernel_rfl
  obtain ⟨cs, rfl, hs⟩ := okWide_struct Try.underlying24 hv
  obtain ⟨c0, c1, c2, c3, c4, c5, c6, c7, c8, c9, c10, rfl⟩ := array11 (hs.trans k11)
  obtain ⟨fuel, hf⟩ := h
  obtain ⟨xs, n, _, hd, _, hl, hel⟩ := DataW.trod_struct Try.underlying24 hf
  have hl11 : xs.length = 11 := by simpa using hl
  have g : ∀ (i : Nat), i < 11 → ∃ z, xs[i]? = some z := fun i hi => ⟨xs[i]'(by omega), List.getElem?_eq_getElem _⟩
  obtain ⟨z0, e0⟩ := g 0 (by omega)
  obtain ⟨z1, e1⟩ := g 1 (by omega)
  obtain ⟨z2, e2⟩ := g 2 (by omega)
  obtain ⟨z3, e3⟩ := g 3 (by omega)
  obtain ⟨z4, e4⟩ := g 4 (by omega)
  obtain ⟨z5, e5⟩ := g 5 (by omega)
  obtain ⟨z6, e6⟩ := g 6 (by omega)
  obtain ⟨z7, e7⟩ := g 7 (by omega)
  obtain ⟨z8, e8⟩ := g 8 (by omega)
  obtain ⟨z9, e9⟩ := g 9 (by omega)
  obtain ⟨z10, e10⟩ := g 10 (by omega)
  obtain ⟨tos, q0, y0, w0⟩ := DataW.trod_int Try.underlying3 ((hel 0 _ rfl).trans e0)
  obtain ⟨id, q1, y1, w1⟩ := DataW.trod_int Try.underlying3 ((hel 1 _ rfl).trans e1)
  obtain ⟨wh, q2, y2⟩ := DataW.trod_bool Try.underlying4 ((hel 2 _ rfl).trans e2)
  obtain ⟨mo, q3, y3⟩ := DataW.trod_bool Try.underlying4 ((hel 3 _ rfl).trans e3)
  obtain ⟨st, q4, y4, w4⟩ := DataW.trod_int Try.underlying3 ((hel 4 _ rfl).trans e4)
  obtain ⟨li, q5, y5, w5⟩ := DataW.trod_int Try.underlying3 ((hel 5 _ rfl).trans e5)
  obtain ⟨pr, q6, y6, w6⟩ := DataW.trod_int Try.underlying3 ((hel 6 _ rfl).trans e6)
  obtain ⟨fr, q7, y7, w7⟩ := DataW.trod_int Try.underlying22 ((hel 7 _ rfl).trans e7)
  obtain ⟨tt, q8, y8, w8⟩ := DataW.trod_int Try.underlying22 ((hel 8 _ rfl).trans e8)
  obtain ⟨o, q9, y9, w9⟩ := DataW.trod_string Try.underlying9 ((hel 9 _ rfl).trans e9)
  obtain ⟨d, q10, y10, w10⟩ := DataW.trod_string Try.underlying9 ((hel 10 _ rfl).trans e10)
  simp [Value.cells, ki, kb, ku, ks] at q0 q1 q2 q3 q4 q5 q6 q7 q8 q9 q10
  subst q0 q1 q2 q3 q4 q5 q6 q7 q8 q9 q10
  refine ⟨⟨tos, id, wh, mo, st, li, pr, fr, tt, o, d⟩, rfl, ⟨(bounds_u32 w7).1, (bounds_u32 w7).2, (bounds_u32 w8).1, (bounds_u32 w8).2⟩, fun m hm => ?_⟩
  have hd1 : d' = .agg (xs.map (·.1)) := congrArg Prod.fst hd
  rw [hd1] at hm
  simp only [DataW.weights, Try.underlying24] at hm
  have g9 := List.all_eq_true.1 hm _ (DataW.weights_mem_each (j := 9) (t := 9) (d := .lit (.string o.data.toList)) (by rfl) (by simp [e9, y9]) o.data.toList.length (by simp [DataW.weights]))
  have g10 := List.all_eq_true.1 hm _ (DataW.weights_mem_each (j := 10) (t := 9) (d := .lit (.string d.data.toList)) (by rfl) (by simp [e10, y10]) d.data.toList.length (by simp [DataW.weights]))
  simp at g9 g10
  exact ⟨g9, g10⟩
/-- what one argument weighs -/
theorem weighed {P : Program} {ts : List TypeId} {ds : List (DataW H)} (h : (DataW.weightsEach P ts ds).all (· ≤ reachBytes) = true) {j : Nat} {t : TypeId} {d : DataW H} (ht : ts[j]? = some t) (hd : ds[j]? = some d) : (d.weights P t).all (· ≤ reachBytes) = true :=
  List.all_eq_true.2 fun n hn => List.all_eq_true.1 h n (DataW.weights_mem_each ht hd n hn)
end
end Go.Proofs.Ytlbpapngcgnepaa.argsi
/- Rows of structs that came in as arguments; a pool that came in as an argument. -/
namespace Go.Proofs.Ytlbpapngcgnepaa.argsq
open Go.ChangeShapes Go.WideShapes Go.ChangeAt Go.RowKit
open Go.Proofs.Ytlbpapngcgnepaa.ipb Go.Proofs.Ytlbpapngcgnepaa.argsi Go.Proofs.Ytlbpapngcgnepaa.frp
open Go.Proofs.Ytlbpapngcgnepaa.rws (Knd)

/-- the slice v is read as l (frp.Rd, but for the form of an address that nothing lies at) -/
def Rd0 {α : Type} (K : Knd α) (w : World) (v : Value) (l : List α) : Prop :=
  ∃ sa sc, v = .slice sa l.length sc ∧ l.length ≤ maxLen ∧ (l.length ≤ sc ∧ (sa = none → sc = 0)) ∧ (0 < l.length → ∃ b off, sa = some ⟨b, off, none⟩ ∧ b < w.heap.size ∧ ∀ j x, l[j]? = some x → ∀ i, i < K.k → w.cell? ⟨b, off + j * K.k + i, none⟩ = (K.enc x)[i]?)
section
variable {H : Type} {enc : TypeId × Value → H} {w : World} {base : Nat} {spare : Nat → Bool} {held : Bool}
theorem weights_mem_all {P : Program} {e : TypeId} : ∀ {ds : List (DataW H)} {d : DataW H}, d ∈ ds → ∀ n ∈ d.weights P e, n ∈ DataW.weightsAll P e ds
  | d0 :: ds, d, hd, n, hn => by
    simp only [DataW.weightsAll, List.mem_append]
    rcases List.mem_cons.1 hd with rfl | hd
    · exact Or.inl hn
    · exact Or.inr (weights_mem_all hd n hn)
theorem rows {α : Type} (K : Knd α) (t : TypeId) (m : Nat) (y0 : α) (V : α → Prop) {fuel : Nat} {cs : List Value} {x : DataW H × List MemPlace} (hk : Try.prog.cellsOf K.e = K.k) (hu : Try.prog.underlying t = some (.slice K.e))
    (each : ∀ n cs x, DataW.trod enc Try.prog w base spare held n K.e cs = some x → (x.1.weights Try.prog K.e).all (· ≤ m) = true → ∃ y, cs = (K.enc y).toList ∧ V y)
    (h : DataW.trod enc Try.prog w base spare held fuel t cs = some x) (hm : (x.1.weights Try.prog t).all (· ≤ m) = true) :
    ∃ sa sc l, cs = [.slice sa l.length sc] ∧ Rd0 K w (.slice sa l.length sc) l ∧ l.length * Try.prog.bytesOf K.e ≤ m ∧ ∀ y ∈ l, V y := by
  rcases DataW.trod_slice hu h with ⟨hcs, _⟩ | ⟨a, len, cap, elems, rest, n, _, hcs, hx, _, hle, hmax, hlen, hel, _, _⟩
  · exact ⟨none, 0, [], hcs, ⟨none, 0, rfl, Nat.zero_le _, ⟨Nat.le_refl _, fun _ => rfl⟩, fun hh => by simp at hh⟩, by simp, fun y hy => by simp at hy⟩
  · have hd : x.1 = .slice (elems.map (·.1)) (rest.map (·.1)) := congrArg Prod.fst hx
    rw [hd] at hm
    simp only [DataW.weights, hu] at hm
    have hm0 := List.all_eq_true.1 hm _ List.mem_cons_self
    have key : ∀ i, ∃ y : α, i < len → (∀ k, k < K.k → w.cell? ((a.add (i * K.k)).add k) = (K.enc y)[k]?) ∧ V y := fun i => by
      by_cases hi : i < len
      · have hh := hel i hi
        rw [List.getElem?_eq_getElem (by omega), hk, Option.bind_eq_some_iff] at hh
        obtain ⟨cs', h1, h2⟩ := hh
        obtain ⟨y, rfl, hV⟩ := each _ _ _ h2 (List.all_eq_true.2 fun z hz => List.all_eq_true.1 hm z (List.mem_cons_of_mem _ (List.mem_append_left _ (weights_mem_all (List.mem_map_of_mem (List.getElem_mem _)) z hz))))
        exact ⟨y, fun _ => ⟨fun k hk' => by rw [(World.cells?_some h1).2.2 k hk', Array.getElem?_toList], hV⟩⟩
      · exact ⟨y0, fun h => absurd h hi⟩
    obtain ⟨f, hf'⟩ := Classical.axiomOfChoice key
    have hl : ((List.range len).map f).length = len := by simp
    refine ⟨some a, cap, (List.range len).map f, by rw [hl]; exact hcs, ⟨some a, cap, rfl, by rw [hl]; omega, ⟨by rw [hl]; exact hle, fun e => by cases e⟩, fun hp => ?_⟩, ?_, fun y hy => ?_⟩
    · have hp' : 0 < len := by rw [hl] at hp; exact hp
      have hz : ∃ z, (K.enc (f 0))[0]? = some z := ⟨_, Array.getElem?_eq_getElem (by rw [K.hk]; exact K.pos)⟩
      obtain ⟨z, hz⟩ := hz
      obtain ⟨b, off, spot⟩ := a
      have h0 := (hf' 0 hp').1 0 K.pos
      rw [hz] at h0
      have hs : spot = none := by simpa [Addr.add] using World.cell?_spot h0
      subst hs
      have c : ∀ j, j < len → ∀ k, k < K.k → w.cell? ⟨b, off + j * K.k + k, none⟩ = (K.enc (f j))[k]? := fun j hj k hk' => by
        have := (hf' j hj).1 k hk'
        rw [Go.WideShapes.add_plain, Go.WideShapes.add_plain] at this
        exact this
      refine ⟨b, off, rfl, World.block_lt_of_cell? (u := z) _ _ ((c 0 hp' 0 K.pos).trans hz), fun j y hj k hk' => ?_⟩
      rw [List.getElem?_map, Option.map_eq_some_iff] at hj
      obtain ⟨i, hi, rfl⟩ := hj
      obtain ⟨h1, h2⟩ := List.getElem?_eq_some_iff.1 hi
      simp at h1 h2
      subst h2
      exact c j h1 k hk'
    · simp only [List.length_map, decide_eq_true_eq] at hm0
      rw [hl]
      refine Nat.le_trans (Nat.mul_le_mul_right _ ?_) hm0
      omega
    · obtain ⟨i, hi, rfl⟩ := List.mem_map.1 hy
      exact (hf' i (by simpa using hi)).2
set_option maxRecDepth 100000 in
/-- a part's cells -/
theorem part_cells (m : Nat) (n : Nat) (cs : List Value) (x : DataW H × List MemPlace) (hf : DataW.trod enc Try.prog w base spare held n 49 cs = some x) (hm : (x.1.weights Try.prog 49).all (· ≤ m) = true) :
    ∃ q : Pt, cs = q.cells.toList ∧ q.d.size ≤ m := by
  have k3 : Try.prog.cellsOf 49 = 3 := by kernel_rfl
  have ki : Try.prog.cellsOf 3 = 1 := by kernel_rfl
  have kb : Try.prog.cellsOf 4 = 1 := by kernel_rfl
  have ks : Try.prog.cellsOf 9 = 1 := by kernel_rfl
  obtain ⟨xs, n, _, hd, hs, hl, hel⟩ := DataW.trod_struct Try.underlying49 hf
  obtain ⟨c0, c1, c2, rfl⟩ : ∃ c0 c1 c2, cs = [c0, c1, c2] := by
    match cs, hs.trans k3 with
    | [c0, c1, c2], _ => exact ⟨c0, c1, c2, rfl⟩
  have hl3 : xs.length = 3 := by simpa using hl
  have g : ∀ (i : Nat), i < 3 → ∃ z, xs[i]? = some z := fun i hi => ⟨xs[i]'(by omega), List.getElem?_eq_getElem _⟩
  obtain ⟨z0, e0⟩ := g 0 (by omega)
  obtain ⟨z1, e1⟩ := g 1 (by omega)
  obtain ⟨z2, e2⟩ := g 2 (by omega)
  obtain ⟨a, q0, y0, w0⟩ := DataW.trod_int Try.underlying3 ((hel 0 _ rfl).trans e0)
  obtain ⟨d, q1, y1, w1⟩ := DataW.trod_string Try.underlying9 ((hel 1 _ rfl).trans e1)
  obtain ⟨la, q2, y2⟩ := DataW.trod_bool Try.underlying4 ((hel 2 _ rfl).trans e2)
  simp [ki, kb, ks] at q0 q1 q2
  subst q0 q1 q2
  refine ⟨⟨a, d, la⟩, rfl, ?_⟩
  have hd1 : x.1 = .agg (xs.map (·.1)) := congrArg Prod.fst hd
  rw [hd1] at hm
  simp only [DataW.weights, Try.underlying49] at hm
  have g1 := List.all_eq_true.1 hm _ (DataW.weights_mem_each (j := 1) (t := 9) (d := .lit (.string d.data.toList)) (by rfl) (by simp [e1, y1]) d.data.toList.length (by simp [DataW.weights]))
  simp at g1
  exact g1
/-- what is known of a heap that lies there -/
def Vh (w : World) (m : Nat) (x : Hv) : Prop := ∃ ps : List Pt, Rd0 TK w x.sl ps ∧ ps.length * 32 ≤ m ∧ ∀ q ∈ ps, q.d.size ≤ m
set_option maxRecDepth 100000 in
/-- a heap's cells -/
theorem heap_cells (m : Nat) (n : Nat) (cs : List Value) (x : DataW H × List MemPlace) (hf : DataW.trod enc Try.prog w base spare held n 46 cs = some x) (hm : (x.1.weights Try.prog 46).all (· ≤ m) = true) :
    ∃ h : Hv, cs = h.cells.toList ∧ Vh w m h := by
  have k8 : Try.prog.cellsOf 46 = 8 := by kernel_rfl
  have k3 : Try.prog.cellsOf 49 = 3 := by kernel_rfl
  have kp : Try.prog.cellsOf 44 = 1 := by kernel_rfl
  have ki : Try.prog.cellsOf 3 = 1 := by kernel_rfl
  have ku : Try.prog.cellsOf 22 = 1 := by kernel_rfl
  have ks : Try.prog.cellsOf 9 = 1 := by kernel_rfl
  have b32 : Try.prog.bytesOf 49 = 32 := by kernel_rfl
  obtain ⟨xs, n, _, hd, hs, hl, hel⟩ := DataW.trod_struct Try.underlying46 hf
  obtain ⟨c0, c1, c2, c3, c4, c5, c6, c7, rfl⟩ : ∃ c0 c1 c2 c3 c4 c5 c6 c7, cs = [c0, c1, c2, c3, c4, c5, c6, c7] := by
    match cs, hs.trans k8 with
    | [c0, c1, c2, c3, c4, c5, c6, c7], _ => exact ⟨c0, c1, c2, c3, c4, c5, c6, c7, rfl⟩
  have hl8 : xs.length = 8 := by simpa using hl
  have g : ∀ (i : Nat), i < 8 → ∃ z, xs[i]? = some z := fun i hi => ⟨xs[i]'(by omega), List.getElem?_eq_getElem _⟩
  obtain ⟨z0, e0⟩ := g 0 (by omega)
  obtain ⟨z1, e1⟩ := g 1 (by omega)
  obtain ⟨z2, e2⟩ := g 2 (by omega)
  obtain ⟨z3, e3⟩ := g 3 (by omega)
  obtain ⟨z4, e4⟩ := g 4 (by omega)
  obtain ⟨z5, e5⟩ := g 5 (by omega)
  obtain ⟨z6, e6⟩ := g 6 (by omega)
  obtain ⟨z7, e7⟩ := g 7 (by omega)
  obtain ⟨fr, q0, y0, w0⟩ := DataW.trod_int Try.underlying22 ((hel 0 _ rfl).trans e0)
  obtain ⟨tt, q1, y1, w1⟩ := DataW.trod_int Try.underlying22 ((hel 1 _ rfl).trans e1)
  obtain ⟨pr, q2, y2, w2⟩ := DataW.trod_int Try.underlying3 ((hel 2 _ rfl).trans e2)
  obtain ⟨id, q3, y3, w3⟩ := DataW.trod_int Try.underlying3 ((hel 3 _ rfl).trans e3)
  obtain ⟨tos, q4, y4, w4⟩ := DataW.trod_int Try.underlying3 ((hel 4 _ rfl).trans e4)
  obtain ⟨li, q5, y5, w5⟩ := DataW.trod_int Try.underlying3 ((hel 5 _ rfl).trans e5)
  obtain ⟨o, q6, y6, w6⟩ := DataW.trod_string Try.underlying9 ((hel 6 _ rfl).trans e6)
  have hd1 : x.1 = .agg (xs.map (·.1)) := congrArg Prod.fst hd
  rw [hd1] at hm
  simp only [DataW.weights, Try.underlying46] at hm
  have g7 : (z7.1.weights Try.prog 44).all (· ≤ m) = true := List.all_eq_true.2 fun n hn => List.all_eq_true.1 hm n (DataW.weights_mem_each (j := 7) (t := 44) (d := z7.1) (by rfl) (by simp [e7]) n hn)
  obtain ⟨sa, sc, ps, q7, hr, hb, hv⟩ := rows TK 44 m (⟨0, ⟨#[]⟩, false⟩ : Pt) (fun q : Pt => q.d.size ≤ m) k3 Try.underlying44 (part_cells m) ((hel 7 _ rfl).trans e7) g7
  simp [ki, ku, ks, kp] at q0 q1 q2 q3 q4 q5 q6 q7
  subst q0 q1 q2 q3 q4 q5 q6 q7
  refine ⟨⟨⟨fr, tt, pr, id, tos, li, o⟩, sa, ps.length, sc⟩, rfl, ps, hr, ?_, hv⟩
  have e : TK.e = 49 := rfl
  rw [e, b32] at hb
  exact hb
set_option maxRecDepth 100000 in
/-- a pool that came in as an argument -/
theorem open_pool {r : Reach} {b0 : Nat} {v : Value} {d' : DataW H} {p : List MemPlace} (m : Nat) (hv : Value.okWide Try.prog w r b0 31 v) (h : DataW.Trod enc Try.prog w base spare held 31 v d' p) (hm : (d'.weights Try.prog 31).all (· ≤ m) = true) :
    ∃ X : List Hv, Rd0 HK w v X ∧ X.length * 80 ≤ m ∧ ∀ x ∈ X, Vh w m x := by
  have k8 : Try.prog.cellsOf 46 = 8 := by kernel_rfl
  have b80 : Try.prog.bytesOf 46 = 80 := by kernel_rfl
  obtain ⟨a0, n0, c0, rfl⟩ := okWide_slice Try.underlying31 hv
  obtain ⟨fuel, hf⟩ := h
  obtain ⟨sa, sc, X, q, hr, hb, hx⟩ := rows HK 31 m (⟨⟨0, 0, 0, 0, 0, 0, ⟨#[]⟩⟩, none, 0, 0⟩ : Hv) (Vh w m) k8 Try.underlying31 (heap_cells m) hf hm
  simp [Value.cells] at q
  obtain ⟨rfl, rfl, rfl⟩ := q
  have e : HK.e = 46 := rfl
  rw [e, b80] at hb
  exact ⟨X, hr, hb, hx⟩
end
end Go.Proofs.Ytlbpapngcgnepaa.argsq
/- A pool that came in as an argument is read as a list of heaps. -/
namespace Go.Proofs.Ytlbpapngcgnepaa.argsq
open Go.Proofs.Ytlbpapngcgnepaa.frp
open Go.Proofs.Ytlbpapngcgnepaa.rws (Knd)

theorem Rd0.rd {α : Type} {K : Knd α} {w : World} {v : Value} {l : List α} (h : Rd0 K w v l) : Rd K w v l := by
  obtain ⟨sa, sc, e, h1, h2, h3⟩ := h
  exact ⟨sa, sc, e, h1, ⟨h2.1, h2.2⟩, h3⟩
theorem pool_of {w : World} {v : Value} {m : Nat} {X : List Hv} (h : Rd0 HK w v X) (hx : ∀ x ∈ X, Vh w m x) :
    ∃ L : List Hp, PRd w v L ∧ L.length = X.length ∧ ∀ y ∈ L, y.ps.length * 32 ≤ m ∧ ∀ q ∈ y.ps, q.d.size ≤ m := by
  have key : ∀ x : Hv, ∃ ps : List Pt, x ∈ X → Rd0 TK w x.sl ps ∧ ps.length * 32 ≤ m ∧ ∀ q ∈ ps, q.d.size ≤ m := fun x => by
    by_cases hm : x ∈ X
    · obtain ⟨ps, hp⟩ := hx x hm
      exact ⟨ps, fun _ => hp⟩
    · exact ⟨[], fun h => absurd h hm⟩
  obtain ⟨f, hf⟩ := Classical.axiomOfChoice key
  refine ⟨X.map fun x => ⟨x.h, f x⟩, ⟨X, h.rd, by simp, fun j x y hj hy => ?_⟩, by simp, fun y hy => ?_⟩
  · rw [List.getElem?_map, hj] at hy
    have e := Option.some.inj hy
    subst e
    exact ⟨rfl, (hf x (List.mem_of_getElem? hj)).1.rd⟩
  · obtain ⟨x, hm, rfl⟩ := List.mem_map.1 hy
    exact (hf x hm).2
end Go.Proofs.Ytlbpapngcgnepaa.argsq
