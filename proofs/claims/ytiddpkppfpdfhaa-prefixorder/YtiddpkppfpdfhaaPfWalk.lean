/- prefix.walk, each: what is told of a trie, one net after another, whatever is told to. -/
import Derived.Test.YtiddpkppfpdfhaaPfCheck
import Derived.Test.YtiddpkppfpdfhaaLastn
namespace Go.Proofs.Ytiddpkppfpdfhaa.pf
open Go.ChangeShapes Go.WideShapes Go.ChangeAt Go.RowKit Go.BigFrame
open Go.Proofs.Ytiddpkppfpdfhaa Go.Proofs.Ytiddpkppfpdfhaa.pm Go.Proofs.Ytiddpkppfpdfhaa.boxes Go.Proofs.Ytiddpkppfpdfhaa.rwr
open Go.Proofs.Ytiddpkppfpdfhaa.rws (Knd Own)

/-- blocks that stay -/
def Same (X : Nat → Prop) (W w' : World) : Prop := W.heap.size ≤ w'.heap.size ∧ ∀ b, X b → b < W.heap.size → w'.heap[b]? = W.heap[b]?
theorem Same.refl (X : Nat → Prop) (W : World) : Same X W W := ⟨Nat.le_refl _, fun _ _ _ => rfl⟩
theorem Same.trans {X : Nat → Prop} {W w1 w2 : World} (h : Same X W w1) (k : Same X w1 w2) : Same X W w2 :=
  ⟨Nat.le_trans h.1 k.1, fun b hb hl => (k.2 b hb (Nat.lt_of_lt_of_le hl h.1)).trans (h.2 b hb hl)⟩
theorem Same.of_below {X : Nat → Prop} {W w' : World} (h : Below W.heap.size W w') : Same X W w' := ⟨h.size, fun b _ hl => h.block b hl⟩
theorem Same.mono {X Y : Nat → Prop} {W w' : World} (h : Same Y W w') (hx : ∀ b, X b → Y b) : Same X W w' := ⟨h.1, fun b hb hl => h.2 b (hx b hb) hl⟩
/-- somebody who is told the rows rs, one after another -/
structure Tel (F : FuncId) (caps : Array Value) (v : Value) (ns : List Nd) (rs : List Rw) (I : (Nat → Prop) → Nat → World → Prop) : Prop where
  enters : ∀ args w, (callFunc F args).run Try.prog w = .ok (.enter F args) w
  rd : ∀ X k W, I X k W → Rd DK W v ns
  grow : ∀ X Y k W W', I X k W → Below W.heap.size W W' → (∀ b, Y b → X b ∨ (W.heap.size ≤ b ∧ b < W'.heap.size)) → I Y k W'
  call : ∀ X k W p u, rs[k]? = some (p, u) → I X k W → Calls Try.prog F (#[.agg (NC (ad 32 p) p.length), .int .i64 u] ++ caps) W fun e w' => e = .returned (.tuple #[]) ∧ I X (k + 1) w' ∧ Same X W w'
theorem rd_at {w : World} {b off n sc : Nat} {l : List Nd} (h : Rd DK w (.slice (some ⟨b, off, none⟩) n sc) l) {i : Nat} {xa xb : Int} {xs : Bool} {xv : Int} (hi : l[i]? = some ⟨xa, xb, xs, xv⟩) :
    b < w.heap.size ∧ w.cell? ⟨b, off + i * 4, none⟩ = some (.int .i64 xa) ∧ w.cell? ⟨b, off + i * 4 + 1, none⟩ = some (.int .i64 xb) ∧ w.cell? ⟨b, off + i * 4 + 2, none⟩ = some (.bool xs) ∧ w.cell? ⟨b, off + i * 4 + 3, none⟩ = some (.int .i64 xv) := by
  obtain ⟨b', off', e, hb, hc⟩ := rd_spot h (by have := (List.getElem?_eq_some_iff.1 hi).1; omega)
  cases e
  exact ⟨hb, nd_cells hc hi⟩
/-- what a walk promises -/
def Walks (F : FuncId) (caps : Array Value) (v : Value) (I : (Nat → Prop) → Nat → World → Prop) (X : Nat → Prop) (k m : Nat) (i : Int) (p : Pth) (W : World) : Prop :=
  Calls Try.prog 46 #[v, .int .i64 i, .agg (NC (ad 32 p) p.length), .func (.func F) #[] caps] W fun e w' => e = .returned (.tuple #[]) ∧ I X (k + m) w' ∧ Same X W w'
set_option maxHeartbeats 4000000 in
set_option maxRecDepth 20000 in
theorem walk_any {F : FuncId} {caps : Array Value} {b off sc : Nat} {ns : List Nd} {rs : List Rw} {I : (Nat → Prop) → Nat → World → Prop} (H : Tel F caps (.slice (some ⟨b, off, none⟩) ns.length sc) ns rs I) : ∀ (t : T) (i : Nat) (p : Pth) (X : Nat → Prop) (k : Nat) (W : World),
    t ≠ .nil → Seg ns i t → p.length + ht t ≤ 33 → I X k W → (∀ j x, (at_ p t)[j]? = some x → rs[k + j]? = some x) →
    Walks F caps (.slice (some ⟨b, off, none⟩) ns.length sc) I X k (at_ p t).length i p W := by
  intro t
  induction t with
  | nil => intro i p X k W h; exact absurd rfl h
  | nd s l r ihl ihr =>
    intro i p X k W _ hs hh hI hr
    obtain ⟨hx, hsl, hsr⟩ := hs
    simp only [ht] at hh
    have hlen := (List.getElem?_eq_some_iff.1 hx).1
    obtain ⟨Y, hY⟩ : ∃ Y : Nat → Prop, Y = fun b => X b ∨ b = W.heap.size := ⟨_, rfl⟩
    have hXY : ∀ b, X b → Y b := fun b hb => by rw [hY]; exact Or.inl hb
    have hYW : Y W.heap.size := by rw [hY]; exact Or.inr rfl
    have hI1 : I Y k (W.alloc (.cells (NC (ad 32 p) p.length) 27)) := H.grow X Y k _ _ hI ((Below.refl _ _).alloc (Nat.le_refl _) _) (fun b hb => by rw [hY] at hb; exact hb.imp id fun e => by simp; omega)
    have G1 := Blk.new W (NC (ad 32 p) p.length) 27
    have S0 : Same X W (W.alloc (.cells (NC (ad 32 p) p.length) 27)) := Same.of_below ((Below.refl _ _).alloc (Nat.le_refl _) _)
    clear hY
    -- what is asked of what comes behind
    have e0 : at_ p (.nd s l r) = (own s).map (pre p) ++ (at_ (p ++ [false]) l ++ at_ (p ++ [true]) r) := at_nd p s l r
    have CL : Hid (∀ W2, l ≠ .nil → I Y (k + ((own s).map (pre p)).length) W2 → Walks F caps (.slice (some ⟨b, off, none⟩) ns.length sc) I Y (k + ((own s).map (pre p)).length) (at_ (p ++ [false]) l).length ((i + 1 : Nat) : Int) (p ++ [false]) W2) :=
      fun W2 hl hI2 => ihl (i + 1) (p ++ [false]) Y _ W2 hl hsl (by simp only [List.length_append, List.length_singleton]; omega) hI2 (fun j x hj => by
        have := hr (((own s).map (pre p)).length + j) x (by rw [e0, List.getElem?_append_right (by omega), Nat.add_sub_cancel_left, List.getElem?_append_left (by exact (List.getElem?_eq_some_iff.1 hj).1)]; exact hj)
        rwa [← Nat.add_assoc] at this)
    have CR : Hid (∀ W2, r ≠ .nil → I Y (k + ((own s).map (pre p)).length + (at_ (p ++ [false]) l).length) W2 → Walks F caps (.slice (some ⟨b, off, none⟩) ns.length sc) I Y (k + ((own s).map (pre p)).length + (at_ (p ++ [false]) l).length) (at_ (p ++ [true]) r).length ((i + 1 + sz l : Nat) : Int) (p ++ [true]) W2) :=
      fun W2 hl hI2 => ihr (i + 1 + sz l) (p ++ [true]) Y _ W2 hl hsr (by simp only [List.length_append, List.length_singleton]; omega) hI2 (fun j x hj => by
        have := hr (((own s).map (pre p)).length + ((at_ (p ++ [false]) l).length + j)) x (by
          rw [e0, List.getElem?_append_right (by omega), Nat.add_sub_cancel_left, List.getElem?_append_right (by omega), Nat.add_sub_cancel_left]; exact hj)
        rwa [← Nat.add_assoc, ← Nat.add_assoc] at this)
    have HT : Hid (∀ u, s = some u → rs[k]? = some (p, u)) := fun u hu => by
      have := hr 0 (p, u) (by rw [e0, hu]; simp [own, pre])
      simpa using this
    have el : Hid ((at_ p (.nd s l r)).length = ((own s).map (pre p)).length + (at_ (p ++ [false]) l).length + (at_ (p ++ [true]) r).length) := by show _ = _; rw [e0]; simp only [List.length_append]; omega
    have lw : Hid (l = .nil → (at_ (p ++ [false]) l).length = 0) := fun h => by rw [h]; rfl
    have rw_ : Hid (r = .nil → (at_ (p ++ [true]) r).length = 0) := fun h => by rw [h]; rfl
    clear e0 hr ihl ihr hsl hsr hI
    have hwl : Hid (l ≠ .nil → way l (i + 1) = ((i + 1 : Nat) : Int)) := fun h => way_ne h
    have hwr : Hid (r ≠ .nil → way r (i + 1 + sz l) = ((i + 1 + sz l : Nat) : Int)) := fun h => way_ne h
    have hwl0 : Hid (l = .nil → way l (i + 1) = 0) := fun h => by rw [h]; rfl
    have hwr0 : Hid (r = .nil → way r (i + 1 + sz l) = 0) := fun h => by rw [h]; rfl
    have hb32l : Hid (l ≠ .nil → p.length ≤ 31) := fun h => by
      have : 0 < ht l := by cases l with
        | nil => exact absurd rfl h
        | nd _ _ _ => simp only [ht]; omega
      omega
    have hb32r : Hid (r ≠ .nil → p.length ≤ 31) := fun h => by
      have : 0 < ht r := by cases r with
        | nil => exact absurd rfl h
        | nd _ _ _ => simp only [ht]; omega
      omega
    have HF : Hid (∀ (c : Bool) (u : World), p.length ≤ 31 → Calls Try.prog 55 #[.agg (NC (ad 32 p) p.length), .int .i64 (if c then 1 else 0)] u fun e w' => e = .returned (.agg (NC (ad 32 (p ++ [c])) ((p.length + 1 : Nat) : Int))) ∧ Below u.heap.size u w') := fun c u h => half_any p c u h
    have RD : Hid (∀ u j, I Y j u → _) := fun u j (hu : I Y j u) => rd_at (H.rd _ _ _ hu) hx
    have p2 : 0 < i + 1 + sz l := by omega
    have p1 : 0 < i + 1 := by omega
    clear hx
    generalize i + 1 + sz l = o2 at *
    generalize i + 1 = o1 at *
    obtain ⟨hb, c0, c1, c2, c3⟩ := RD.out _ _ hI1
    have hK : Hid (s = none → k + ((own s).map (pre p)).length = k) := fun h => by rw [h]; rfl
    have hK1 : Hid (∀ u, s = some u → k + ((own s).map (pre p)).length = k + 1) := fun u h => by rw [h]; rfl
    show Calls _ _ _ _ _
    rw [el.out]
    clear el
    have eqK : k + (((own s).map (pre p)).length + (at_ (p ++ [false]) l).length + (at_ (p ++ [true]) r).length) = k + ((own s).map (pre p)).length + (at_ (p ++ [false]) l).length + (at_ (p ++ [true]) r).length := by omega
    rw [eqK]
    clear eqK
    generalize (at_ (p ++ [false]) l).length = mL at *
    generalize (at_ (p ++ [true]) r).length = mR at *
    generalize k + ((own s).map (pre p)).length = K1 at *
    have hlen2 : i < ns.length := hlen
    clear hlen hh
    go_enter Try.func46, Try.ntmps46
    go_upto_if 14 with fail
    have eF := H.enters
    generalize hW1 : W.alloc (Obj.cells (NC (ad 32 p) p.length) 27) = W1 at *
    go_cut [] (fun wx => I Y K1 wx ∧ Same Y W1 wx)
    case first =>
      cases s with
      | none =>
        have e := hK.out rfl
        go_wp2_with fail
        go_meet
        case rel => exact ⟨by rw [e]; exact hI1, Same.refl _ _⟩
      | some u =>
        have e := hK1.out u rfl
        have hk := HT.out u rfl
        have HC := H.call Y k
        go_upto_region 2 with fail
        have nn := ab.ne W1
        have n0 := ab.cells G1
        have cc3 := ab.cell c3 hb
        refine lsn.region 7 _ (ab.Ab W1) (by kernel_rfl) (by simp only [List.take]; exact rfl) (by simp only [List.drop]; exact rfl) (by kernel_rfl) (by kernel_rfl) (ab.Ab.drew _) ?_
        repeat (go_big_quiet_step (fail))
        refine wpQuiet_nil ?_
        intro _ hx
        obtain ⟨y, rfl⟩ := hx
        have Ey := H.grow Y Y k W1 y.W hI1 y.h (fun b hb => Or.inl hb)
        go_wp2_with fail
        refine (HC y.W p u hk Ey).mono ?_
        rintro e w2 ⟨rfl, I2, S2⟩
        have S3 := (Same.of_below (X := Y) y.h).trans S2
        go_wp2_with fail
        go_meet
        case rel => exact ⟨by rw [e]; exact I2, S3⟩
    case rest =>
      obtain ⟨I2, S2⟩ := hcut
      have G2 : Blk wc W.heap.size (NC (ad 32 p) p.length) 27 := (S2.2 _ hYW G1.lt).trans G1
      obtain ⟨hb, c0, c1, c2, c3⟩ := RD.out _ _ I2
      clear c2 c3 hI1
      go_wp2_with fail
      have ix0 := idx0 (way l o1) (way r (o2))
      have ix1 := idx1 (way l o1) (way r (o2))
      generalize hwl_ : way l o1 = wl at *
      generalize hwr_ : way r (o2) = wr_ at *
      clear hwl_ hwr_
      go_loopw [28] (fun s28 wr => Same Y wc wr ∧ Blk wr W.heap.size (NC (ad 32 p) p.length) 27 ∧ ((s28 = .int .i64 0 ∧ I Y K1 wr) ∨ (s28 = .int .i64 1 ∧ I Y (K1 + mL) wr) ∨ (s28 = .int .i64 2 ∧ I Y (K1 + mL + mR) wr))) (fun s _ => 2 - (intOf s).toNat)
      case atStart => exact ⟨Same.refl _ _, G2, Or.inl ⟨rfl, I2⟩⟩
      case round =>
        obtain ⟨Sr, Gr, hj⟩ := hrel
        rcases hj with ⟨rfl, Ir⟩ | ⟨rfl, Ir⟩ | ⟨rfl, Ir⟩
        · have ix := ix0
          clear ix0 ix1
          by_cases hz : l = .nil
          · have hw0 := hwl0.out hz
            have em := lw.out hz
            subst hw0
            go_wp2_with fail
            go_roundw
            case rel => exact ⟨Sr, Gr, Or.inr (Or.inl ⟨rfl, by rw [em, Nat.add_zero]; exact Ir⟩)⟩
            case measure => simp [intOf]
          · have hw1 := hwl.out hz
            subst hw1
            have CH := HF.out false wr (hb32l.out hz)
            have CW := fun u hu => CL.out u hz hu
            have cA := Gr.cell
            simp only [Bool.false_eq_true, if_false] at CH
            go_wp2_with fail
            refine CH.mono ?_
            rintro e w3 ⟨rfl, z3⟩
            have I3 := H.grow Y Y _ wr w3 Ir z3 (fun b hb => Or.inl hb)
            have CW3 := CW w3 I3
            unfold Walks at CW3
            rw [List.length_append, List.length_singleton] at CW3
            go_wp2_with fail
            refine CW3.mono ?_
            rintro e w4 ⟨rfl, I4, S4⟩
            have S5 := (Sr.trans (Same.of_below z3)).trans S4
            have G5 := (S4.2 _ hYW (Nat.lt_of_lt_of_le Gr.lt z3.size)).trans (Gr.below z3 Gr.lt)
            go_wp2_with fail
            go_roundw
            case rel => exact ⟨S5, G5, Or.inr (Or.inl ⟨rfl, I4⟩)⟩
            case measure => simp [intOf]
        · have ix := ix1
          clear ix0 ix1
          by_cases hz : r = .nil
          · have hw0 := hwr0.out hz
            have em := rw_.out hz
            subst hw0
            go_wp2_with fail
            go_roundw
            case rel => exact ⟨Sr, Gr, Or.inr (Or.inr ⟨rfl, by rw [em, Nat.add_zero]; exact Ir⟩)⟩
            case measure => simp [intOf]
          · have hw1 := hwr.out hz
            subst hw1
            have CH := HF.out true wr (hb32r.out hz)
            have CW := fun u hu => CR.out u hz hu
            have cA := Gr.cell
            simp only [if_true] at CH
            go_wp2_with fail
            refine CH.mono ?_
            rintro e w3 ⟨rfl, z3⟩
            have I3 := H.grow Y Y _ wr w3 Ir z3 (fun b hb => Or.inl hb)
            have CW3 := CW w3 I3
            unfold Walks at CW3
            rw [List.length_append, List.length_singleton] at CW3
            go_wp2_with fail
            refine CW3.mono ?_
            rintro e w4 ⟨rfl, I4, S4⟩
            have S5 := (Sr.trans (Same.of_below z3)).trans S4
            have G5 := (S4.2 _ hYW (Nat.lt_of_lt_of_le Gr.lt z3.size)).trans (Gr.below z3 Gr.lt)
            go_wp2_with fail
            go_roundw
            case rel => exact ⟨S5, G5, Or.inr (Or.inr ⟨rfl, I4⟩)⟩
            case measure => simp [intOf]
        · go_wp2_with fail
          go_end0
          exact ⟨rfl, H.grow Y X _ _ _ Ir (Below.refl _ _) (fun b hb => Or.inl (hXY b hb)), S0.trans ((S2.trans Sr).mono hXY)⟩
set_option maxRecDepth 20000 in
theorem each_any {F : FuncId} {caps : Array Value} {v : Value} {ns : List Nd} {t : T} {I : (Nat → Prop) → Nat → World → Prop} (H : Tel F caps v ns (rows t) I) (hns : ns = lay 0 t) (hh : ht t ≤ 33) (X : Nat → Prop) (w : World) (hI : I X 0 w) :
    Calls Try.prog 28 #[.agg (TC v), .func (.func F) #[] caps] w fun e w' => e = .returned (.tuple #[]) ∧ I X (rows t).length w' ∧ Same X w w' := by
  have b1 := (Below.refl w.heap.size w).alloc (Nat.le_refl _) (.cells (TC v) 24)
  have I1 := H.grow X X 0 w _ hI b1 (fun b hb => Or.inl hb)
  have hR := H.rd _ _ _ hI
  have hl := rd_len hR
  by_cases h0 : t = .nil
  · have e0 : ns.length = 0 := by rw [hns, h0]; rfl
    obtain ⟨sa, sc, rfl⟩ := hR.form
    have e1 : (rows t).length = 0 := by rw [h0]; rfl
    rw [e1]
    rw [e0] at H I1 b1 ⊢
    clear hR
    go_enter Try.func28, Try.ntmps28
    go_wp2_with fail
    go_end0
    exact ⟨rfl, I1, Same.of_below b1⟩
  · have hp : 0 < ns.length := by rw [hns, lay_length]; exact sz_pos h0
    have hs : Seg ns 0 t := by rw [hns]; exact seg_self t
    obtain ⟨sa, sc, rfl⟩ := hR.form
    obtain ⟨b, off, rfl, _, _⟩ := rd_spot hR hp
    have CW := walk_any H t 0 [] X 0 (w.alloc (.cells (TC (.slice (some ⟨b, off, none⟩) ns.length sc)) 24)) h0 hs (by simpa using hh) I1 (fun j x hj => by rw [at_nil] at hj; rwa [Nat.zero_add])
    unfold Walks at CW
    rw [at_nil, Nat.zero_add] at CW
    have CW : Calls Try.prog 46 #[.slice (some ⟨b, off, none⟩) ns.length sc, .int .i64 0, .agg #[.int .u32 0, .int .i64 0], .func (.func F) #[] caps] (w.alloc (.cells (TC (.slice (some ⟨b, off, none⟩) ns.length sc)) 24)) _ := CW
    clear hR hs hns I1 hI
    generalize ns.length = n at *
    go_enter Try.func28, Try.ntmps28
    go_wp2_with fail
    refine CW.mono ?_
    rintro e w4 ⟨rfl, I4, S4⟩
    go_wp2_with fail
    go_end0
    exact ⟨rfl, I4, (Same.of_below b1).trans S4⟩
end Go.Proofs.Ytiddpkppfpdfhaa.pf
