/- custref.TrieRemove: the reference's answer is the program's. -/
import Derived.Test.YtiddpkppfpdfhaaPrPut
namespace Go.Proofs.Ytiddpkppfpdfhaa.pf
open Go.ChangeShapes Go.WideShapes Go.ChangeAt Go.RowKit Go.BigFrame
open Go.Proofs.Ytiddpkppfpdfhaa Go.Proofs.Ytiddpkppfpdfhaa.pm Go.Proofs.Ytiddpkppfpdfhaa.boxes Go.Proofs.Ytiddpkppfpdfhaa.rwr Go.Proofs.Ytiddpkppfpdfhaa.rwat
open Go.Proofs.Ytiddpkppfpdfhaa.rws (Knd Own)

set_option maxRecDepth 20000 in
theorem cloneR_any (v : Value) (ps : List Rw) (w : World) (h : Rd RK w v ps) (hb : ps.length * 24 ≤ 140737488355328) :
    Calls Try.prog 37 #[v] w fun e w' => ∃ v', e = .returned v' ∧ Own RK w' w.heap.size v' ps ∧ Below w.heap.size w w' := by
  have hm : ps.length ≤ maxLen := by unfold maxLen; omega
  obtain ⟨sa, sc, rfl, hm', hf, hc⟩ := h
  cases sa with
  | none =>
    have e0 := hf.nil rfl
    have e1 := hf.le
    have el : ps = [] := List.eq_nil_of_length_eq_zero (by omega)
    subst el
    refine (AnyE.slices_Clone_nil Try.cloneRw 0 sc w).mono ?_
    rintro e w' ⟨rfl, rfl⟩
    exact ⟨_, rfl, Own.nil _ _ _, Below.refl _ _⟩
  | some a =>
    have b1 := (Below.refl w.heap.size w).alloc (Nat.le_refl _) (.cells #[] 45)
    have hr : Rd RK (w.alloc (.cells #[] 45)) (.slice (some a) ps.length sc) ps := Rd.below ⟨_, _, rfl, hm', hf, hc⟩ b1
    have ow : Own RK (w.alloc (.cells #[] 45)) w.heap.size (.slice (some ⟨w.heap.size, 0, none⟩) 0 0) [] := ⟨rfl, Or.inr ⟨w.heap.size, 0, #[], rfl, Nat.le_refl _, Blk.new _ _ _, Nat.le_refl _, Nat.zero_le _, rfl, rfl⟩⟩
    clear hc
    have q : ∀ (w : World) (a : Option Addr) (n c n' c' : Nat), (binOp .eql 41 (.slice a n c) (.slice none n' c')).run Try.prog w = .ok (.bool a.isNone) w := fun w a n c n' c' => Lib.run_eql_slice_nil w _ _ a n c n' c' Try.underlying41
    go_enter Try.func37, Try.ntmps37
    go_wp2_with (at_builtin; refine app_rd RK _ rfl _ _ rfl w.heap.size _ [] rfl ow (.slice (some a) ps.length sc) ps rfl hr (by simpa using hm) (by show ([].length + ps.length) * 24 ≤ _; simpa using hb) (by simp) ?_)
    intro v4 W4 O4 c4 _
    go_wp2_with fail
    go_ret
    exact ⟨_, rfl, O4, b1.trans c4⟩
theorem but_len (p : Pth) (rs : List Rw) : (but p rs).length < rs.length ↔ ∃ x ∈ rs, x.1 = p := by
  induction rs with
  | nil => simp [but]
  | cons y rs ih =>
    have hle : (but p rs).length ≤ rs.length := List.length_filter_le _ _
    by_cases h : y.1 = p
    · have e : but p (y :: rs) = but p rs := by simp [but, h]
      rw [e, List.length_cons]
      exact ⟨fun _ => ⟨y, by simp, h⟩, fun _ => by omega⟩
    · have e : but p (y :: rs) = y :: but p rs := by simp [but, h]
      rw [e, List.length_cons, List.length_cons]
      constructor
      · intro hl
        obtain ⟨x, hx, ex⟩ := ih.1 (by omega)
        exact ⟨x, by simp [hx], ex⟩
      · rintro ⟨x, hx, ex⟩
        rcases List.mem_cons.1 hx with hx | hx
        · subst hx; exact absurd ex h
        · have := ih.2 ⟨x, hx, ex⟩; omega
theorem look_row (t : T) (p : Pth) : (pm.look t p).isSome = true ↔ ∃ x ∈ rows t, x.1 = p := by
  constructor
  · intro h
    obtain ⟨v, hv⟩ := Option.isSome_iff_exists.1 h
    exact ⟨(p, v), (mem_rows t p v).2 hv, rfl⟩
  · rintro ⟨⟨q, v⟩, hx, rfl⟩
    rw [(mem_rows t q v).1 hx]; rfl
set_option maxRecDepth 20000 in
set_option maxHeartbeats 8000000 in
theorem trem_any (v : Value) (ns : List Nd) (a : Nat) (l : Int) (w : World) (hr : Rd DK w v ns) (ha : a < 4294967296) :
    Calls Try.prog 12 #[.agg (TC v), .agg (NC a l)] w fun e w' => PutOut (remE ns a l) (remL ns a l) w e w' := by
  have b0 := (((Below.refl w.heap.size w).alloc (Nat.le_refl _) (.cells (TC v) 24)).alloc (by simp) (.cells (NC a l) 27)).alloc (by simp; omega) (.cells ZT 24)
  have F0 := ((Blk.new w (TC v) 24).alloc (.cells (NC a l) 27)).alloc (.cells ZT 24)
  have F1 := (Blk.newAt (w.alloc (.cells (TC v) 24)) (NC a l) 27 (b := w.heap.size + 1) (by simp)).alloc (.cells ZT 24)
  have R0 := Blk.newAt ((w.alloc (.cells (TC v) 24)).alloc (.cells (NC a l) 27)) ZT 24 (b := w.heap.size + 2) (by simp)
  replace hr := hr.below b0
  have CR := right_any v ns _ hr
  by_cases hc : chk ns 2 4 = 0
  · have hrt := chk0 hc
    rw [hc] at CR
    have hl0 : ns.length ≤ 500 := hrt.2.2.2
    have CW := fun u (hu : Rd DK u v ns) => rows_any v ns u hu hl0
    have CN := fun u => isNetR_any a l u ha
    have HT : Hid (∀ (rs : List Rw) (ok : Bool), (∀ t, Rt ns t → ok = true ∧ rs = rows t) → rs = rows (tree ns)) := fun rs ok h => (h _ hrt).2
    by_cases hn : isN a l = true
    · obtain ⟨h1, h2, h3⟩ := isN_yes hn ha
      have hrem := rem_of hrt h1
      rw [← h2, ← h3] at hrem
      rw [hn] at CN
      have HEL : Hid (((but (path a l) (rows (tree ns))).length < (rows (tree ns)).length → remE ns a l = 0 ∧ remL ns a l = lay 0 (ofR (but (path a l) (rows (tree ns))))) ∧ (¬ (but (path a l) (rows (tree ns))).length < (rows (tree ns)).length → remE ns a l = 7 ∧ remL ns a l = [])) := by
        refine ⟨fun h => ?_, fun h => ?_⟩
        · have hk := (look_row _ _).2 ((but_len _ _).1 h)
          rw [hrem.1, hrem.2, if_pos hk, if_pos hk]; exact ⟨rfl, rfl⟩
        · have hk : ¬ (pm.look (tree ns) (path a l)).isSome = true := fun hh => h ((but_len _ _).2 ((look_row _ _).1 hh))
          rw [hrem.1, hrem.2, if_neg hk, if_neg hk]; exact ⟨rfl, rfl⟩
      obtain ⟨k, hk⟩ : ∃ k : Nat, l = (k : Int) := ⟨_, h3⟩
      have hk32 : k ≤ 32 := by omega
      have CB := fun u => bitsOf_any a k u hk32 ha
      have hpk : bts 32 a k = path a l := by unfold path; rw [hk, Int.toNat_natCast]
      rw [hpk, ← hk] at CB
      clear hk hk32 h2 h3 hrem hn hpk hrt hc
      generalize remE ns a l = PE at *
      generalize remL ns a l = PL at *
      generalize hp : path a l = p at *
      clear hp
      generalize rows (tree ns) = rs0 at *
      obtain ⟨sa, sc, e_v⟩ := hr.form
      obtain ⟨n, hn⟩ : ∃ n, n = ns.length := ⟨_, rfl⟩
      have HNn : Hid (n = ns.length) := hn
      rw [← hn] at e_v
      subst e_v
      clear hn
      go_enter Try.func12, Try.ntmps12
      go_upto_region 1 with fail
      generalize hV : ((w.alloc (.cells (TC (.slice sa n sc)) 24)).alloc (.cells (NC a l) 27)).alloc (.cells ZT 24) = V at *
      clear hV
      have cF0 := F0.cell
      go_wp2_with fail
      refine CR.mono ?_
      rintro e W1 ⟨rfl, z⟩
      replace F0 := F0.below z F0.lt
      replace F1 := F1.below z F1.lt
      replace R0 := R0.below z R0.lt
      replace hr := hr.below z
      replace b0 := b0.trans (z.mono b0.size)
      clear cF0 CR z
      have cF0 := F0.cell
      have C2 := CW W1 hr
      clear CW
      go_wp2_with fail
      refine C2.mono ?_
      rintro e W3 ⟨v1, rs, ok, rfl, O1, hlen, hrl, hrt, z⟩
      obtain rfl := HT.out rs ok hrt
      have hB3 : w.heap.size + 2 < W1.heap.size := R0.lt
      replace F1 := F1.below z F1.lt
      replace R0 := R0.below z R0.lt
      replace b0 := b0.trans (z.mono b0.size)
      have hB2 := z.size
      have hb2 := b0.size
      clear C2 cF0 F0 hr z HT hrt
      have cF1 := F1.cell
      go_wp2_with fail
      refine (CN _).mono ?_
      rintro e W4 ⟨rfl, z⟩
      replace O1 := O1.kept z
      replace F1 := F1.below z F1.lt
      replace R0 := R0.below z R0.lt
      replace b0 := b0.trans (z.mono b0.size)
      have hB4 : W1.heap.size ≤ W4.heap.size := Nat.le_trans hB2 z.size
      clear cF1 CN z hB2 hb2
      have cF1 := F1.cell
      go_wp2_with fail
      refine (CB _).mono ?_
      rintro e W4 ⟨rfl, rfl⟩
      have S4 := Blk.new W4 #[.string (en p)] 9
      have d4 := (Below.refl W4.heap.size W4).alloc (Nat.le_refl _) (.cells #[.string (en p)] 9)
      go_upto_region 7 with fail
      have O5 := O1.kept d4
      have R5 := R0.below d4 R0.lt
      have hB5 : W1.heap.size ≤ (W4.alloc (.cells #[.string (en p)] 9)).heap.size := Nat.le_trans hB4 d4.size
      have b5 := b0.trans (d4.mono b0.size)
      clear cF1 CB F1 O1 R0 b0 d4
      generalize W4.alloc (.cells #[.string (en p)] 9) = W5 at *
      have hbs : W4.heap.size < W5.heap.size := S4.lt
      generalize W4.heap.size = bs at *
      have q5 := Own.rd O5
      obtain ⟨s1, c1, e1⟩ := q5.form
      have CC := cloneR_any _ rs W5 q5 (by omega)
      have HRL : Hid (rs.length ≤ 501) := hrl
      obtain ⟨nr, hnr⟩ : ∃ nr, nr = rs.length := ⟨_, rfl⟩
      rw [← hnr] at e1 hrl HEL
      subst e1
      clear hnr
      go_wp2_with fail
      refine CC.mono ?_
      rintro e W6 ⟨v2, rfl, O6, z⟩
      have S6 := S4.below z S4.lt
      have R6 := R5.below z R5.lt
      have hB6 : W1.heap.size ≤ W6.heap.size := Nat.le_trans hB5 z.size
      have b6 := b5.trans (z.mono b5.size)
      have hne6 : v2.ownBlock ≠ some bs := own_ne O6 hbs
      have hR5 := R5.lt
      have h56 := z.size
      clear CC O5 S4 R5 b5 z q5 hB5
      have CD := delR_any prd_rem v2 rs p bs W5.heap.size W6 O6 S6 hne6 h56 (by have := HRL.out; omega)
      go_wp2_with fail
      refine CD.mono ?_
      rintro e W7 ⟨v3, rfl, O7, o7⟩
      have R7 := o7.blk R6 (own_ne O6 hR5)
      have b7 := b6.trans (o7.below (fun g hg => by have := own_ge O6 g hg; have := b6.size; omega) b6.size)
      have hlenb : ∀ x ∈ but p rs, x.1.length ≤ 32 := fun x hx => hlen x (List.mem_filter.1 hx).1
      have hbl : (but p rs).length ≤ 501 := Nat.le_trans (List.length_filter_le _ _) HRL.out
      have q7 := Own.rd O7
      have CO := of_any v3 (but p rs) W7 q7 hlenb (by omega)
      have hB7 : W5.heap.size ≤ W7.heap.size := Nat.le_trans h56 o7.1.size
      clear CD O6 S6 hne6 R6 o7 b6 hB6 hlenb hlen
      obtain ⟨s3, c3, e3⟩ := q7.form
      generalize (but p rs).length = nb at *
      generalize lay 0 (ofR (but p rs)) = LL at *
      clear q7 O7
      subst e3
      by_cases hlt : nb < nr
      · have hel : Hid (PE = 0 ∧ PL = LL) := HEL.out.1 hlt
        have hlt' : (nb : Int) < (nr : Int) := by omega
        clear HEL
        go_wp2_with fail
        refine CO.mono ?_
        rintro e W8 ⟨v8, rfl, O8, z⟩
        have R8 := R7.below z R7.lt
        have b8 := b7.trans (z.mono b7.size)
        obtain ⟨s8, c8, e8⟩ := (Own.rd O8).form
        obtain ⟨n8, hn8⟩ : ∃ n8, n8 = LL.length := ⟨_, rfl⟩
        rw [← hn8] at e8
        subst e8
        clear hn8
        have hlt7 : w.heap.size + 2 < W7.heap.size := R7.lt
        have hlt8 : W7.heap.size ≤ W8.heap.size := z.size
        clear CO R7 b7 z
        go_wp2_with (refine blk_store _ rfl 24 _ _ rfl (w.heap.size + 2) (TC (.slice s8 n8 c8)) rfl rfl _ _ R8 1 tr_info rfl rfl (tk_one _ ⟨_, _, _, rfl⟩) ?_; intro W10 K10 p10)
        exact blk_ret2 rfl rfl (w.heap.size + 2) (TC (.slice s8 n8 c8)) 24 rfl K10 _ Try.underlying24 rfl 1 tr_info rfl (by rw [hel.out.1, hel.out.2]; exact po ⟨_, rfl, (O8.but p10 (own_ne O8 (by omega))).mono (by omega), p10.below b8 (by omega)⟩)
      · have hel : Hid (PE = 7 ∧ PL = []) := HEL.out.2 hlt
        have hlt' : ¬ (nb : Int) < (nr : Int) := by omega
        clear HEL
        go_wp2_with (refine blk_store _ rfl 24 _ _ rfl (w.heap.size + 2) ZT rfl rfl _ _ R7 1 tr_info rfl rfl (tk_one _ ⟨_, _, _, rfl⟩) ?_; intro W10 K10 p10)
        exact blk_ret2 rfl rfl (w.heap.size + 2) ZT 24 rfl K10 _ Try.underlying24 rfl 1 tr_info rfl (by rw [hel.out.1, hel.out.2]; exact po ⟨_, rfl, Own.nil _ _ _, p10.below b7 (by omega)⟩)
    · have hn' : isN a l = false := by simpa using hn
      rw [hn'] at CN
      have hE : remE ns a l = 7 := by
        unfold remE; rw [if_neg (by rw [hc]; decide)]
        rw [if_neg]
        rw [List.any_eq_true]
        rintro ⟨x, hx, e⟩
        rw [same_no hn' (hrt.fine.len hx)] at e
        cases e
      have hL : remL ns a l = [] := by unfold remL; rw [hE, if_neg (by decide)]
      rw [hE, hL]
      clear hE hL hn hn' hrt hc
      generalize rows (tree ns) = rs0 at *
      obtain ⟨sa, sc, e_v⟩ := hr.form
      obtain ⟨n, hn⟩ : ∃ n, n = ns.length := ⟨_, rfl⟩
      have HNn : Hid (n = ns.length) := hn
      rw [← hn] at e_v
      subst e_v
      clear hn
      go_enter Try.func12, Try.ntmps12
      go_upto_region 1 with fail
      generalize hV : ((w.alloc (.cells (TC (.slice sa n sc)) 24)).alloc (.cells (NC a l) 27)).alloc (.cells ZT 24) = V at *
      clear hV
      have cF0 := F0.cell
      go_wp2_with fail
      refine CR.mono ?_
      rintro e W1 ⟨rfl, z⟩
      replace F0 := F0.below z F0.lt
      replace F1 := F1.below z F1.lt
      replace R0 := R0.below z R0.lt
      replace hr := hr.below z
      replace b0 := b0.trans (z.mono b0.size)
      clear cF0 CR z
      have cF0 := F0.cell
      have C2 := CW W1 hr
      clear CW
      go_wp2_with fail
      refine C2.mono ?_
      rintro e W3 ⟨v1, rs, ok, rfl, O1, hlen, hrl, hrt, z⟩
      obtain rfl := HT.out rs ok hrt
      have hB3 : w.heap.size + 2 < W1.heap.size := R0.lt
      replace F1 := F1.below z F1.lt
      replace R0 := R0.below z R0.lt
      replace b0 := b0.trans (z.mono b0.size)
      have hB2 := z.size
      have hb2 := b0.size
      clear C2 cF0 F0 hr z HT hrt
      have cF1 := F1.cell
      go_wp2_with fail
      refine (CN _).mono ?_
      rintro e W4 ⟨rfl, z⟩
      replace O1 := O1.kept z
      replace F1 := F1.below z F1.lt
      replace R0 := R0.below z R0.lt
      replace b0 := b0.trans (z.mono b0.size)
      have hB4 : W1.heap.size ≤ W4.heap.size := Nat.le_trans hB2 z.size
      clear cF1 CN z hB2 hb2
      go_wp2_with (refine blk_store _ rfl 24 _ _ rfl (w.heap.size + 2) ZT rfl rfl _ _ R0 1 tr_info rfl rfl (tk_one _ ⟨_, _, _, rfl⟩) ?_; intro W9 K9 p9)
      exact blk_ret2 rfl rfl (w.heap.size + 2) ZT 24 rfl K9 _ Try.underlying24 rfl 1 tr_info rfl (po ⟨_, rfl, Own.nil _ _ _, p9.below b0 (by omega)⟩)
  · have hE : remE ns a l = chk ns 2 4 := by unfold remE; rw [if_pos hc]
    have hL : remL ns a l = [] := by unfold remL; rw [hE, if_neg hc]
    rw [hE, hL]
    have hc' : (chk ns 2 4 != 0) = true := by simpa using hc
    clear hE hL hc
    generalize chk ns 2 4 = c at *
    obtain ⟨sa, sc, e_v⟩ := hr.form
    obtain ⟨n, hn⟩ : ∃ n, n = ns.length := ⟨_, rfl⟩
    have HNn : Hid (n = ns.length) := hn
    rw [← hn] at e_v
    subst e_v
    clear hn
    go_enter Try.func12, Try.ntmps12
    go_upto_region 1 with fail
    generalize hV : ((w.alloc (.cells (TC (.slice sa n sc)) 24)).alloc (.cells (NC a l) 27)).alloc (.cells ZT 24) = V at *
    clear hV
    have cF0 := F0.cell
    go_wp2_with fail
    refine CR.mono ?_
    rintro e W1 ⟨rfl, z⟩
    replace F0 := F0.below z F0.lt
    replace F1 := F1.below z F1.lt
    replace R0 := R0.below z R0.lt
    replace hr := hr.below z
    replace b0 := b0.trans (z.mono b0.size)
    clear cF0 CR z
    go_wp2_with (refine blk_store _ rfl 24 _ _ rfl (w.heap.size + 2) ZT rfl rfl _ _ R0 1 tr_info rfl rfl (tk_one _ ⟨_, _, _, rfl⟩) ?_; intro W9 K9 p9)
    exact blk_ret2 rfl rfl (w.heap.size + 2) ZT 24 rfl K9 _ Try.underlying24 rfl 1 tr_info rfl (po ⟨_, rfl, Own.nil _ _ _, p9.below b0 (by omega)⟩)
end Go.Proofs.Ytiddpkppfpdfhaa.pf
