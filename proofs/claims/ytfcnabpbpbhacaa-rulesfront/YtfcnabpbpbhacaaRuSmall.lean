/- The small ones: rules.isProto, areBounds, isRule, isFlow, hasProto, meets, hasNet, covers. -/
import Derived.Test.YtfcnabpbpbhacaaRuBase
namespace Go.Proofs.Ytfcnabpbpbhacaa.ru
open Go.ChangeShapes Go.WideShapes Go.ChangeAt Go.RowKit Go.BigFrame
open Go.Proofs.Ytfcnabpbpbhacaa Go.Proofs.Ytfcnabpbpbhacaa.pm Go.Proofs.Ytfcnabpbpbhacaa.pf Go.Proofs.Ytfcnabpbpbhacaa.boxes Go.Proofs.Ytfcnabpbpbhacaa.rwr
open Go.Proofs.Ytfcnabpbpbhacaa.rws (Knd Own)

theorem proto_any (n : Int) (w : World) : Calls Try.prog 32 #[.int .i64 n] w fun e w' => e = .returned (.bool (okP n)) ∧ w' = w := by
  unfold okP
  by_cases h1 : 0 ≤ n
  · by_cases h2 : n ≤ 255
    all_goals go_enter Try.func32, Try.ntmps32
    all_goals go_wp2_with fail
    all_goals go_ret
    all_goals exact ⟨ret_bool (by first | (simp; done) | (simp; omega)), rfl⟩
  · go_enter Try.func32, Try.ntmps32
    go_wp2_with fail
    go_ret
    exact ⟨ret_bool (by first | (simp; done) | (simp; omega)), rfl⟩
theorem bounds_any (x y : Int) (w : World) : Calls Try.prog 33 #[.int .i64 x, .int .i64 y] w fun e w' => e = .returned (.bool (okB x y)) ∧ w' = w := by
  unfold okB
  by_cases h1 : 0 ≤ x
  · by_cases h2 : x ≤ y
    · by_cases h3 : y ≤ 65535
      all_goals go_enter Try.func33, Try.ntmps33
      all_goals go_wp2_with fail
      all_goals go_ret
      all_goals exact ⟨ret_bool (by first | (simp; done) | (simp; omega)), rfl⟩
    · go_enter Try.func33, Try.ntmps33
      go_wp2_with fail
      go_ret
      exact ⟨ret_bool (by first | (simp; done) | (simp; omega)), rfl⟩
  · go_enter Try.func33, Try.ntmps33
    go_wp2_with fail
    go_ret
    exact ⟨ret_bool (by first | (simp; done) | (simp; omega)), rfl⟩

set_option maxRecDepth 20000 in
theorem isRule_any (r : Ru) (w : World) (hf : fits r) : Calls Try.prog 25 #[.agg (Ru.cells r)] w fun e w' => e = .returned (.bool (okR r)) ∧ Below w.heap.size w w' := by
  obtain ⟨fa, fl, ta, tl, pr, a, b, c, d, ps⟩ := r
  obtain ⟨f1, f2⟩ := hf
  dsimp only at f1 f2
  unfold okR
  dsimp only [Ru.cells]
  have C1 := fun W => isNet_any fa fl W f1
  have C2 := fun W => isNet_any ta tl W f2
  have C3 := fun W => proto_any pr W
  have C4 := fun W => bounds_any a b W
  have C5 := fun W => bounds_any c d W
  generalize isN fa fl = x1 at *
  generalize isN ta tl = x2 at *
  generalize okP pr = x3 at *
  generalize okB a b = x4 at *
  generalize okB c d = x5 at *
  clear f1 f2
  have b0 := (Below.refl w.heap.size w).alloc (Nat.le_refl _) (.cells (XC fa fl ta tl pr a b c d ps) 34)
  have G0 := Blk.new w (XC fa fl ta tl pr a b c d ps) 34
  go_enter Try.func25, Try.ntmps25
  go_upto_region 1 with fail
  generalize hW : w.alloc (Obj.cells (XC fa fl ta tl pr a b c d ps) 34) = W at *
  clear hW
  have c0 := G0.cell
  go_wp2_with fail
  refine (C1 _).mono ?_
  rintro e w1 ⟨rfl, z⟩
  have G0 := G0.below z G0.lt
  clear c0
  have c0 := G0.cell
  have b0 := b0.trans (z.mono b0.size)
  cases x1 with
  | false =>
    go_wp2_with fail
    go_ret
    exact ⟨ret_bool (by first | (simp; done) | (simp; omega)), b0⟩
  | true =>
    go_wp2_with fail
    refine (C2 _).mono ?_
    rintro e w1 ⟨rfl, z⟩
    have G0 := G0.below z G0.lt
    clear c0
    have c0 := G0.cell
    have b0 := b0.trans (z.mono b0.size)
    cases x2 with
    | false =>
      go_wp2_with fail
      go_ret
      exact ⟨ret_bool (by first | (simp; done) | (simp; omega)), b0⟩
    | true =>
      go_wp2_with fail
      refine (C3 _).mono ?_
      rintro e w1 ⟨rfl, rfl⟩
      cases x3 with
      | false =>
        go_wp2_with fail
        go_ret
        exact ⟨ret_bool (by first | (simp; done) | (simp; omega)), b0⟩
      | true =>
        go_wp2_with fail
        refine (C4 _).mono ?_
        rintro e w1 ⟨rfl, rfl⟩
        cases x4 with
        | false =>
          go_wp2_with fail
          go_ret
          exact ⟨ret_bool (by first | (simp; done) | (simp; omega)), b0⟩
        | true =>
          go_wp2_with fail
          refine (C5 _).mono ?_
          rintro e w1 ⟨rfl, rfl⟩
          go_wp2_with fail
          go_ret
          exact ⟨ret_bool (by first | (simp; done) | (simp; omega)), b0⟩
set_option maxRecDepth 20000 in
theorem isFlow_any (f : Fw) (w : World) : Calls Try.prog 19 #[.agg (Fw.cells f)] w fun e w' => e = .returned (.bool (okF f)) ∧ Below w.heap.size w w' := by
  obtain ⟨f, t, q, x, y⟩ := f
  unfold okF
  dsimp only [Fw.cells]
  have C3 := fun W => proto_any q W
  have C4 := fun W => bounds_any x x W
  have C5 := fun W => bounds_any y y W
  generalize okP q = x3 at *
  generalize okB x x = x4 at *
  generalize okB y y = x5 at *
  have b0 := (Below.refl w.heap.size w).alloc (Nat.le_refl _) (.cells (#[.int .u32 (f : Int), .int .u32 (t : Int), .int .i64 q, .int .i64 x, .int .i64 y]) 25)
  have G0 := Blk.new w (#[.int .u32 (f : Int), .int .u32 (t : Int), .int .i64 q, .int .i64 x, .int .i64 y]) 25
  go_enter Try.func19, Try.ntmps19
  go_upto_region 1 with fail
  generalize hW : w.alloc (Obj.cells (#[.int .u32 (f : Int), .int .u32 (t : Int), .int .i64 q, .int .i64 x, .int .i64 y]) 25) = W at *
  clear hW
  have c0 := G0.cell
  go_wp2_with fail
  refine (C3 _).mono ?_
  rintro e w1 ⟨rfl, rfl⟩
  cases x3 with
  | false =>
    go_wp2_with fail
    go_ret
    exact ⟨ret_bool (by first | (simp; done) | (simp; omega)), b0⟩
  | true =>
    go_wp2_with fail
    refine (C4 _).mono ?_
    rintro e w1 ⟨rfl, rfl⟩
    cases x4 with
    | false =>
      go_wp2_with fail
      go_ret
      exact ⟨ret_bool (by first | (simp; done) | (simp; omega)), b0⟩
    | true =>
      go_wp2_with fail
      refine (C5 _).mono ?_
      rintro e w1 ⟨rfl, rfl⟩
      go_wp2_with fail
      go_ret
      exact ⟨ret_bool (by first | (simp; done) | (simp; omega)), b0⟩
set_option maxRecDepth 20000 in
theorem hasProto_any (r : Ru) (n : Int) (w : World) : Calls Try.prog 35 #[.agg (Ru.cells r), .int .i64 n] w fun e w' => e = .returned (.bool (hp r n)) ∧ Below w.heap.size w w' := by
  obtain ⟨fa, fl, ta, tl, pr, a, b, c, d, ps⟩ := r
  unfold hp
  dsimp only [Ru.cells]
  have b0 := (Below.refl w.heap.size w).alloc (Nat.le_refl _) (.cells (XC fa fl ta tl pr a b c d ps) 34)
  have G0 := Blk.new w (XC fa fl ta tl pr a b c d ps) 34
  have c0 := G0.cell
  by_cases h1 : pr = 0
  · subst h1
    go_enter Try.func35, Try.ntmps35
    go_upto_region 1 with fail
    generalize hW : w.alloc (Obj.cells (XC fa fl ta tl 0 a b c d ps) 34) = W at *
    clear hW
    go_wp2_with fail
    go_ret
    exact ⟨ret_bool (by first | (simp; done) | (simp; omega)), b0⟩
  · have e1 : (pr == 0) = false := by simpa using h1
    by_cases h2 : pr = n
    · subst h2
      go_enter Try.func35, Try.ntmps35
      go_upto_region 1 with fail
      generalize hW : w.alloc (Obj.cells (XC fa fl ta tl pr a b c d ps) 34) = W at *
      clear hW
      go_wp2_with fail
      go_ret
      exact ⟨ret_bool (by first | (simp; done) | (simp; omega)), b0⟩
    · have e2 : (pr == n) = false := by simpa using h2
      go_enter Try.func35, Try.ntmps35
      go_upto_region 1 with fail
      generalize hW : w.alloc (Obj.cells (XC fa fl ta tl pr a b c d ps) 34) = W at *
      clear hW
      go_wp2_with fail
      go_ret
      exact ⟨ret_bool (by first | (simp; done) | (simp; omega)), b0⟩
theorem hasB_hs (a : Nat) (l : Int) (c : Nat) : hasB a l c = hs a l c := rfl
set_option maxRecDepth 20000 in
theorem meets_any (r : Ru) (f : Fw) (w : World) (hr : fits r) (hf : fitsF f) : Calls Try.prog 22 #[.agg (Ru.cells r), .agg (Fw.cells f)] w fun e w' => e = .returned (.bool (mts f r)) ∧ Below w.heap.size w w' := by
  obtain ⟨fa, fl, ta, tl, pr, a, b, c, d, ps⟩ := r
  obtain ⟨f, t, q, x, y⟩ := f
  obtain ⟨f1, f2⟩ := hr
  obtain ⟨f3, f4⟩ := hf
  dsimp only at f1 f2 f3 f4
  unfold mts
  dsimp only [Ru.cells, Fw.cells]
  have C1 := fun W => hasN_any fa f fl W f1 f3
  have C2 := fun W => hasN_any ta t tl W f2 f4
  have C3 := fun W => hasProto_any ⟨fa, fl, ta, tl, pr, a, b, c, d, ps⟩ q W
  simp only [hasB_hs] at C1 C2
  dsimp only [Ru.cells] at C3
  generalize hs fa fl f = x1 at *
  generalize hs ta tl t = x2 at *
  generalize hp ⟨fa, fl, ta, tl, pr, a, b, c, d, ps⟩ q = x3 at *
  clear f1 f2 f3 f4
  have b0 := (Below.refl w.heap.size w).alloc (Nat.le_refl _) (.cells (XC fa fl ta tl pr a b c d ps) 34)
  have G0 := Blk.new w (XC fa fl ta tl pr a b c d ps) 34
  have b0 := b0.alloc (by simp) (.cells (#[.int .u32 (f : Int), .int .u32 (t : Int), .int .i64 q, .int .i64 x, .int .i64 y]) 25)
  have G1 := Blk.newAt ((w.alloc (.cells (XC fa fl ta tl pr a b c d ps) 34))) (#[.int .u32 (f : Int), .int .u32 (t : Int), .int .i64 q, .int .i64 x, .int .i64 y]) 25 (b := w.heap.size + 1) (by simp)
  have G0 := G0.alloc (.cells (#[.int .u32 (f : Int), .int .u32 (t : Int), .int .i64 q, .int .i64 x, .int .i64 y]) 25)
  go_enter Try.func22, Try.ntmps22
  go_upto_region 1 with fail
  generalize hW : (w.alloc (Obj.cells (XC fa fl ta tl pr a b c d ps) 34)).alloc (Obj.cells (#[.int .u32 (f : Int), .int .u32 (t : Int), .int .i64 q, .int .i64 x, .int .i64 y]) 25) = W at *
  clear hW
  have c0 := G0.cell
  have c1 := G1.cell
  go_wp2_with fail
  refine (C1 _).mono ?_
  rintro e w1 ⟨rfl, z⟩
  have G0 := G0.below z G0.lt
  clear c0
  have c0 := G0.cell
  have G1 := G1.below z G1.lt
  clear c1
  have c1 := G1.cell
  have b0 := b0.trans (z.mono b0.size)
  cases x1 with
  | false =>
    go_wp2_with fail
    go_ret
    exact ⟨ret_bool (by first | (simp; done) | (simp; omega)), b0⟩
  | true =>
    go_wp2_with fail
    refine (C2 _).mono ?_
    rintro e w1 ⟨rfl, z⟩
    have G0 := G0.below z G0.lt
    clear c0
    have c0 := G0.cell
    have G1 := G1.below z G1.lt
    clear c1
    have c1 := G1.cell
    have b0 := b0.trans (z.mono b0.size)
    cases x2 with
    | false =>
      go_wp2_with fail
      go_ret
      exact ⟨ret_bool (by first | (simp; done) | (simp; omega)), b0⟩
    | true =>
      go_wp2_with fail
      refine (C3 _).mono ?_
      rintro e w1 ⟨rfl, z⟩
      have G0 := G0.below z G0.lt
      clear c0
      have c0 := G0.cell
      have G1 := G1.below z G1.lt
      clear c1
      have c1 := G1.cell
      have b0 := b0.trans (z.mono b0.size)
      cases x3 with
      | false =>
        go_wp2_with fail
        go_ret
        exact ⟨ret_bool (by first | (simp; done) | (simp; omega)), b0⟩
      | true =>
        by_cases h1 : a ≤ x
        rotate_left
        · go_wp2_with fail
          go_ret
          exact ⟨ret_bool (by first | (simp; done) | (simp; omega)), b0⟩
        by_cases h2 : x ≤ b
        rotate_left
        · go_wp2_with fail
          go_ret
          exact ⟨ret_bool (by first | (simp; done) | (simp; omega)), b0⟩
        by_cases h3 : c ≤ y
        rotate_left
        · go_wp2_with fail
          go_ret
          exact ⟨ret_bool (by first | (simp; done) | (simp; omega)), b0⟩
        by_cases h4 : y ≤ d
        all_goals go_wp2_with fail
        all_goals go_ret
        all_goals exact ⟨ret_bool (by first | (simp; done) | (simp; omega)), b0⟩
set_option maxRecDepth 20000 in
theorem hasNet_any (ao : Nat) (lo : Int) (ai : Nat) (li : Int) (w : World) (h1 : ao < 4294967296) (h2 : ai < 4294967296) : Calls Try.prog 39 #[.agg (NC ao lo), .agg (NC ai li)] w fun e w' => e = .returned (.bool (hn ao lo ai li)) ∧ Below w.heap.size w w' := by
  unfold hn
  have C1 := fun W => hasN_any ao ai lo W h1 h2
  simp only [hasB_hs] at C1
  generalize hs ao lo ai = x1 at *
  clear h1 h2
  have b0 := (Below.refl w.heap.size w).alloc (Nat.le_refl _) (.cells (NC ao lo) 32)
  have G0 := Blk.new w (NC ao lo) 32
  have b0 := b0.alloc (by simp) (.cells (NC ai li) 32)
  have G1 := Blk.newAt ((w.alloc (.cells (NC ao lo) 32))) (NC ai li) 32 (b := w.heap.size + 1) (by simp)
  have G0 := G0.alloc (.cells (NC ai li) 32)
  go_enter Try.func39, Try.ntmps39
  go_upto_region 1 with fail
  generalize hW : (w.alloc (Obj.cells (NC ao lo) 32)).alloc (Obj.cells (NC ai li) 32) = W at *
  clear hW
  have c0 := G0.cell
  have c1 := G1.cell
  by_cases h1 : lo ≤ li
  rotate_left
  · go_wp2_with fail
    go_ret
    exact ⟨ret_bool (by first | (simp; done) | (simp; omega)), b0⟩
  go_wp2_with fail
  refine (C1 _).mono ?_
  rintro e w1 ⟨rfl, z⟩
  have G0 := G0.below z G0.lt
  clear c0
  have c0 := G0.cell
  have G1 := G1.below z G1.lt
  clear c1
  have c1 := G1.cell
  have b0 := b0.trans (z.mono b0.size)
  go_wp2_with fail
  go_ret
  exact ⟨ret_bool (by first | (simp; done) | (simp; omega)), b0⟩
set_option maxRecDepth 20000 in
theorem covers_any (r s : Ru) (w : World) (hr : fits r) (hs : fits s) : Calls Try.prog 27 #[.agg (Ru.cells r), .agg (Ru.cells s)] w fun e w' => e = .returned (.bool (cov r s)) ∧ Below w.heap.size w w' := by
  obtain ⟨fa, fl, ta, tl, pr, a, b, c, d, ps⟩ := r
  obtain ⟨ga, gl, ua, ul, qr, e, f, g, h, qs⟩ := s
  obtain ⟨f1, f2⟩ := hr
  obtain ⟨f3, f4⟩ := hs
  dsimp only at f1 f2 f3 f4
  unfold cov
  dsimp only [Ru.cells]
  have C1 := fun W => hasNet_any fa fl ga gl W f1 f3
  have C2 := fun W => hasNet_any ta tl ua ul W f2 f4
  have C3 := fun W => hasProto_any ⟨fa, fl, ta, tl, pr, a, b, c, d, ps⟩ qr W
  dsimp only [Ru.cells] at C3
  generalize hn fa fl ga gl = x1 at *
  generalize hn ta tl ua ul = x2 at *
  generalize hp ⟨fa, fl, ta, tl, pr, a, b, c, d, ps⟩ qr = x3 at *
  clear f1 f2 f3 f4
  have b0 := (Below.refl w.heap.size w).alloc (Nat.le_refl _) (.cells (XC fa fl ta tl pr a b c d ps) 34)
  have G0 := Blk.new w (XC fa fl ta tl pr a b c d ps) 34
  have b0 := b0.alloc (by simp) (.cells (XC ga gl ua ul qr e f g h qs) 34)
  have G1 := Blk.newAt ((w.alloc (.cells (XC fa fl ta tl pr a b c d ps) 34))) (XC ga gl ua ul qr e f g h qs) 34 (b := w.heap.size + 1) (by simp)
  have G0 := G0.alloc (.cells (XC ga gl ua ul qr e f g h qs) 34)
  go_enter Try.func27, Try.ntmps27
  go_upto_region 1 with fail
  generalize hW : (w.alloc (Obj.cells (XC fa fl ta tl pr a b c d ps) 34)).alloc (Obj.cells (XC ga gl ua ul qr e f g h qs) 34) = W at *
  clear hW
  have c0 := G0.cell
  have c1 := G1.cell
  go_wp2_with fail
  refine (C1 _).mono ?_
  rintro e w1 ⟨rfl, z⟩
  have G0 := G0.below z G0.lt
  clear c0
  have c0 := G0.cell
  have G1 := G1.below z G1.lt
  clear c1
  have c1 := G1.cell
  have b0 := b0.trans (z.mono b0.size)
  cases x1 with
  | false =>
    go_wp2_with fail
    go_ret
    exact ⟨ret_bool (by first | (simp; done) | (simp; omega)), b0⟩
  | true =>
    go_wp2_with fail
    refine (C2 _).mono ?_
    rintro e w1 ⟨rfl, z⟩
    have G0 := G0.below z G0.lt
    clear c0
    have c0 := G0.cell
    have G1 := G1.below z G1.lt
    clear c1
    have c1 := G1.cell
    have b0 := b0.trans (z.mono b0.size)
    cases x2 with
    | false =>
      go_wp2_with fail
      go_ret
      exact ⟨ret_bool (by first | (simp; done) | (simp; omega)), b0⟩
    | true =>
      go_wp2_with fail
      refine (C3 _).mono ?_
      rintro e w1 ⟨rfl, z⟩
      have G0 := G0.below z G0.lt
      clear c0
      have c0 := G0.cell
      have G1 := G1.below z G1.lt
      clear c1
      have c1 := G1.cell
      have b0 := b0.trans (z.mono b0.size)
      cases x3 with
      | false =>
        go_wp2_with fail
        go_ret
        exact ⟨ret_bool (by first | (simp; done) | (simp; omega)), b0⟩
      | true =>
        by_cases h1 : a ≤ e
        rotate_left
        · go_wp2_with fail
          go_ret
          exact ⟨ret_bool (by first | (simp; done) | (simp; omega)), b0⟩
        by_cases h2 : f ≤ b
        rotate_left
        · go_wp2_with fail
          go_ret
          exact ⟨ret_bool (by first | (simp; done) | (simp; omega)), b0⟩
        by_cases h3 : c ≤ g
        rotate_left
        · go_wp2_with fail
          go_ret
          exact ⟨ret_bool (by first | (simp; done) | (simp; omega)), b0⟩
        by_cases h4 : h ≤ d
        all_goals go_wp2_with fail
        all_goals go_ret
        all_goals exact ⟨ret_bool (by first | (simp; done) | (simp; omega)), b0⟩
end Go.Proofs.Ytfcnabpbpbhacaa.ru
