/- custref.TriePut: the reference's answer is the program's. -/
import Derived.Test.YtiddpkppfpdfhaaPrRight
import Derived.Test.YtiddpkppfpdfhaaPrDel
namespace Go.Proofs.Ytiddpkppfpdfhaa.pf
open Go.ChangeShapes Go.WideShapes Go.ChangeAt Go.RowKit Go.BigFrame
open Go.Proofs.Ytiddpkppfpdfhaa Go.Proofs.Ytiddpkppfpdfhaa.pm Go.Proofs.Ytiddpkppfpdfhaa.boxes Go.Proofs.Ytiddpkppfpdfhaa.rwr Go.Proofs.Ytiddpkppfpdfhaa.rwat
open Go.Proofs.Ytiddpkppfpdfhaa.rws (Knd Own)

def PutOut (E : Int) (L : List Nd) (w : World) (e : Ending) (w' : World) : Prop := ∃ v', e = .returned (.tuple #[.agg (TC v'), .int .i64 E]) ∧ Own DK w' w.heap.size v' L ∧ Below w.heap.size w w'
theorem po {E : Int} {L : List Nd} {w : World} {e : Ending} {w' : World} (h : ∃ v', e = .returned (.tuple #[.agg (TC v'), .int .i64 E]) ∧ Own DK w' w.heap.size v' L ∧ Below w.heap.size w w') : PutOut E L w e w' := h
theorem str_one (s : ByteArray) : (#[Value.string s]).all (·.oneCell') = true := by simp [Value.oneCell']
theorem str_info : (Try.prog.info? 9).map (·.size) = some 1 := by kernel_rfl
set_option maxRecDepth 20000 in
set_option maxHeartbeats 8000000 in
theorem tput_any (v : Value) (ns : List Nd) (a : Nat) (l val : Int) (w : World) (hr : Rd DK w v ns) (ha : a < 4294967296) :
    Calls Try.prog 10 #[.agg (TC v), .agg (NC a l), .int .i64 val] w fun e w' => PutOut (putE ns a l val) (putL ns a l val) w e w' := by
  have b0 := (((Below.refl w.heap.size w).alloc (Nat.le_refl _) (.cells (TC v) 24)).alloc (by simp) (.cells (NC a l) 27)).alloc (by simp; omega) (.cells ZT 24)
  have F0 := ((Blk.new w (TC v) 24).alloc (.cells (NC a l) 27)).alloc (.cells ZT 24)
  have F1 := (Blk.newAt (w.alloc (.cells (TC v) 24)) (NC a l) 27 (b := w.heap.size + 1) (by simp)).alloc (.cells ZT 24)
  have R0 := Blk.newAt ((w.alloc (.cells (TC v) 24)).alloc (.cells (NC a l) 27)) ZT 24 (b := w.heap.size + 2) (by simp)
  replace hr := hr.below b0
  have CR := right_any v ns _ hr
  by_cases hc : chk ns 2 4 = 0
  · have hrt := chk0 hc
    rw [hc] at CR
    by_cases hn : isN a l = true
    · obtain ⟨h1, h2, h3⟩ := isN_yes hn ha
      have hput := put_of hrt h1 val
      rw [← h2, ← h3] at hput
      have HEL : Hid ((500 < sz (ins (tree ns) (path a l) val) → putE ns a l val = 2 ∧ putL ns a l val = []) ∧ (¬ 500 < sz (ins (tree ns) (path a l) val) → putE ns a l val = 0 ∧ putL ns a l val = lay 0 (ins (tree ns) (path a l) val))) := by
        refine ⟨fun h => ?_, fun h => ?_⟩
        · rw [hput.1, hput.2, if_pos h, if_pos h]; exact ⟨rfl, rfl⟩
        · rw [hput.1, hput.2, if_neg h, if_neg h]; exact ⟨rfl, rfl⟩
      have hl0 : ns.length ≤ 500 := hrt.2.2.2
      have CW := fun u (hu : Rd DK u v ns) => rows_any v ns u hu hl0
      have CN := fun u => isNetR_any a l u ha
      rw [hn] at CN
      obtain ⟨k, hk⟩ : ∃ k : Nat, l = (k : Int) := ⟨_, h3⟩
      have hk32 : k ≤ 32 := by omega
      have CB := fun u => bitsOf_any a k u hk32 ha
      have hpk : bts 32 a k = path a l := by unfold path; rw [hk, Int.toNat_natCast]
      rw [hpk, ← hk] at CB
      clear hk hk32
      have HT : Hid (∀ (rs : List Rw) (ok : Bool), (∀ t, Rt ns t → ok = true ∧ rs = rows t) → rs = rows (tree ns)) := fun rs ok h => (h _ hrt).2
      have HE : Hid (ofR (but (path a l) (rows (tree ns)) ++ [(path a l, val)]) = ins (tree ns) (path a l) val) := ref_put hrt.1 _ _
      have HLn : Hid ((lay 0 (ins (tree ns) (path a l) val)).length = sz (ins (tree ns) (path a l) val)) := lay_length _ _
      clear h2 h3 hput hn hpk hrt hc
      generalize putE ns a l val = PE at *
      generalize putL ns a l val = PL at *
      generalize hp : path a l = p at *
      clear hp
      generalize rows (tree ns) = rs0 at *
      generalize ins (tree ns) p val = tt at *
      generalize sz tt = N at *
      obtain ⟨sa, sc, e_v⟩ := hr.form
      obtain ⟨n, hn⟩ : ∃ n, n = ns.length := ⟨_, rfl⟩
      have HNn : Hid (n = ns.length) := hn
      rw [← hn] at e_v
      subst e_v
      clear hn
      go_enter Try.func10, Try.ntmps10
      go_upto_region 1 with fail
      generalize hV : ((w.alloc (.cells (TC (.slice sa n sc)) 24)).alloc (.cells (NC a l) 27)).alloc (.cells ZT 24) = V at *
      clear hV
      have cF0 := F0.cell
      go_wp2_with fail
      refine CR.mono ?_
      rintro e W1 ⟨rfl, z⟩
      replace F0 := F0.below z F0.lt
      replace F1 := F1.below z F1.lt
      replace R0 := R0.below z R0.lt
      replace hr := hr.below z
      replace b0 := b0.trans (z.mono b0.size)
      clear cF0 CR z
      have cF1 := F1.cell
      go_wp2_with fail
      refine (CN _).mono ?_
      rintro e W2 ⟨rfl, z⟩
      replace F0 := F0.below z F0.lt
      replace F1 := F1.below z F1.lt
      replace R0 := R0.below z R0.lt
      replace hr := hr.below z
      replace b0 := b0.trans (z.mono b0.size)
      clear cF1 CN z
      have cF0 := F0.cell
      have C2 := CW W2 hr
      clear CW
      go_wp2_with fail
      refine C2.mono ?_
      rintro e W3 ⟨v1, rs, ok, rfl, O1, hlen, hrl, hrt, z⟩
      obtain rfl := HT.out rs ok hrt
      have hB3 : w.heap.size + 2 < W2.heap.size := R0.lt
      replace F1 := F1.below z F1.lt
      replace R0 := R0.below z R0.lt
      replace b0 := b0.trans (z.mono b0.size)
      have hB2 := z.size
      have hb2 := b0.size
      clear C2 cF0 F0 hr z HT hrt
      have cF1 := F1.cell
      go_wp2_with fail
      refine (CB _).mono ?_
      rintro e W3 ⟨rfl, rfl⟩
      have S4' := Blk.new W3 #[.string (en p)] 9
      have d4 := (Below.refl W3.heap.size W3).alloc (Nat.le_refl _) (.cells #[.string (en p)] 9)
      go_upto_region 8 with fail
      have O4 := O1.kept d4
      have R4 := R0.below d4 R0.lt
      have hne4 : v1.ownBlock ≠ some W3.heap.size := fun e => by have := own_lt O1 _ e; omega
      have hB4 : W2.heap.size ≤ (W3.alloc (.cells #[.string (en p)] 9)).heap.size := Nat.le_trans hB2 d4.size
      have b4 := b0.trans (d4.mono b0.size)
      clear cF1 CB F1 O1 R0 b0 d4
      generalize W3.alloc (.cells #[.string (en p)] 9) = W4 at *
      have hbs : W2.heap.size ≤ W3.heap.size := hB2
      generalize W3.heap.size = bs at *
      have CD := delR_any prd_put v1 rs p bs W2.heap.size W4 O4 S4' hne4 hB4 (by omega)
      go_wp2_with fail
      refine CD.mono ?_
      rintro e W5 ⟨v2, rfl, O5, o5⟩
      have S5 := o5.blk S4' hne4
      have R5 := o5.blk R4 (own_ne O4 hB3)
      have hB5 : W2.heap.size ≤ W5.heap.size := Nat.le_trans hB4 o5.1.size
      have b5 := b4.trans (o5.below (fun g hg => by have := own_ge O4 g hg; omega) b4.size)
      have hbl : (but p rs).length ≤ 501 := Nat.le_trans (List.length_filter_le _ _) hrl
      have hlenb : ∀ x ∈ but p rs, x.1.length ≤ 32 := fun x hx => hlen x (List.mem_filter.1 hx).1
      clear CD O4 S4' hne4 R4 o5 b4 hB4 hlen
      have O6 := O5.alloc (.cells (rwc (p, val)) 45)
      have Y6 := Blk.new W5 (rwc (p, val)) 45
      have d6 := (Below.refl W5.heap.size W5).alloc (Nat.le_refl _) (.cells (rwc (p, val)) 45)
      have hB6 : W2.heap.size ≤ (W5.alloc (.cells (rwc (p, val)) 45)).heap.size := Nat.le_trans hB5 d6.size
      have cS := S5.cell
      go_wp2_with (at_builtin; refine app_at RK _ rfl _ _ rfl W2.heap.size _ (but p rs) rfl O6 W5.heap.size 1 (p, val) 45 rfl Y6 (by omega) (by show ((but p rs).length + 1) * 24 ≤ _; omega) hB6 ?_)
      intro v7 W7 O7 g7 x7
      have o7 := (Only.of_below (v := v2) d6).trans (Only.of_app g7 (x7.imp id fun e => by rw [e]; simp))
      have R7 := o7.blk R5 (own_ne O5 hB3)
      have b7 := b5.trans (o7.below (fun g hg => by have := own_ge O5 g hg; omega) b5.size)
      have CO := of_any v7 (but p rs ++ [(p, val)]) W7 (Own.rd O7) (fun x hx => by
        rcases List.mem_append.1 hx with hx | hx
        · exact hlenb x hx
        · simp only [List.mem_singleton] at hx; subst hx; exact h1) (by rw [List.length_append]; simp; omega)
      rw [HE.out] at CO
      clear O5 O6 Y6 d6 hB6 cS S5 R5 o7 g7 x7 b5 O7 hlenb
      go_wp2_with fail
      refine CO.mono ?_
      rintro e W8 ⟨v8, rfl, O8, z⟩
      have R8 := R7.below z R7.lt
      have b8 := b7.trans (z.mono b7.size)
      have hB8 : w.heap.size ≤ W7.heap.size := b7.size
      obtain ⟨s8, c8, e8⟩ := (Own.rd O8).form
      rw [HLn.out] at e8
      subst e8
      have hlt8 : W7.heap.size ≤ W8.heap.size := z.size
      have hbx : w.heap.size + 2 < W7.heap.size := R7.lt
      clear CO R7 b7 z
      have dT := (Below.refl W8.heap.size W8).alloc (Nat.le_refl _) (.cells ZT 24)
      go_upto_region 10 with (refine blk_store _ rfl 24 _ _ rfl W8.heap.size (TC (.slice s8 N c8)) rfl rfl _ _ (Blk.new W8 ZT 24) 1 tr_info rfl rfl (tk_one _ ⟨_, _, _, rfl⟩) ?_; intro W9 K9 p9)
      have zz := p9.below dT (Nat.le_refl _)
      have R9 := R8.below zz R8.lt
      have O9 := O8.kept zz
      have b9 := b8.trans (zz.mono b8.size)
      clear dT p9 zz R8 O8 b8
      have cK := K9.cell
      by_cases hN : 500 < N
      · have hel0 := HEL.out.1 hN
        have hel : Hid (PE = 2 ∧ PL = []) := hel0
        clear hel0
        have hN' : (500 : Int) < (N : Int) := by omega
        go_wp2_with (refine blk_store _ rfl 24 _ _ rfl (w.heap.size + 2) ZT rfl rfl _ _ R9 1 tr_info rfl rfl (tk_one _ ⟨_, _, _, rfl⟩) ?_; intro W10 K10 p10)
        exact blk_ret2 rfl rfl (w.heap.size + 2) ZT 24 rfl K10 _ Try.underlying24 rfl 1 tr_info rfl (by rw [hel.out.1, hel.out.2]; exact po ⟨_, rfl, Own.nil _ _ _, p10.below b9 (by omega)⟩)
      · have hel0 := HEL.out.2 hN
        have hel : Hid (PE = 0 ∧ PL = lay 0 tt) := hel0
        clear hel0
        have hN' : ¬ (500 : Int) < (N : Int) := by omega
        go_wp2_with (refine blk_store _ rfl 24 _ _ rfl (w.heap.size + 2) (TC (.slice s8 N c8)) rfl rfl _ _ R9 1 tr_info rfl rfl (tk_one _ ⟨_, _, _, rfl⟩) ?_; intro W10 K10 p10)
        exact blk_ret2 rfl rfl (w.heap.size + 2) (TC (.slice s8 N c8)) 24 rfl K10 _ Try.underlying24 rfl 1 tr_info rfl (by rw [hel.out.1, hel.out.2]; exact po ⟨_, rfl, (O9.but p10 (own_ne O9 (by omega))).mono (by omega), p10.below b9 (by omega)⟩)
    · have hn' : isN a l = false := by simpa using hn
      have hE : putE ns a l val = 1 := by unfold putE; rw [if_neg (by rw [hc]; decide), if_pos hn']
      have hL : putL ns a l val = [] := by unfold putL; rw [hE, if_neg (by decide)]
      rw [hE, hL]
      have CN := fun u => isNetR_any a l u ha
      rw [hn'] at CN
      clear hE hL hn hn' hrt hc
      obtain ⟨sa, sc, e_v⟩ := hr.form
      obtain ⟨n, hn⟩ : ∃ n, n = ns.length := ⟨_, rfl⟩
      have HNn : Hid (n = ns.length) := hn
      rw [← hn] at e_v
      subst e_v
      clear hn
      go_enter Try.func10, Try.ntmps10
      go_upto_region 1 with fail
      generalize hV : ((w.alloc (.cells (TC (.slice sa n sc)) 24)).alloc (.cells (NC a l) 27)).alloc (.cells ZT 24) = V at *
      clear hV
      have cF0 := F0.cell
      go_wp2_with fail
      refine CR.mono ?_
      rintro e W1 ⟨rfl, z⟩
      replace F0 := F0.below z F0.lt
      replace F1 := F1.below z F1.lt
      replace R0 := R0.below z R0.lt
      replace hr := hr.below z
      replace b0 := b0.trans (z.mono b0.size)
      clear cF0 CR z
      have cF1 := F1.cell
      go_wp2_with fail
      refine (CN _).mono ?_
      rintro e W2 ⟨rfl, z⟩
      replace R0 := R0.below z R0.lt
      replace b0 := b0.trans (z.mono b0.size)
      clear cF1 CN z
      go_wp2_with (refine blk_store _ rfl 24 _ _ rfl (w.heap.size + 2) ZT rfl rfl _ _ R0 1 tr_info rfl rfl (tk_one _ ⟨_, _, _, rfl⟩) ?_; intro W9 K9 p9)
      exact blk_ret2 rfl rfl (w.heap.size + 2) ZT 24 rfl K9 _ Try.underlying24 rfl 1 tr_info rfl (po ⟨_, rfl, Own.nil _ _ _, p9.below b0 (by omega)⟩)
  · have hE : putE ns a l val = chk ns 2 4 := by unfold putE; rw [if_pos hc]
    have hL : putL ns a l val = [] := by unfold putL; rw [hE, if_neg hc]
    rw [hE, hL]
    have hc' : (chk ns 2 4 != 0) = true := by simpa using hc
    clear hE hL hc
    generalize chk ns 2 4 = c at *
    obtain ⟨sa, sc, e_v⟩ := hr.form
    obtain ⟨n, hn⟩ : ∃ n, n = ns.length := ⟨_, rfl⟩
    have HNn : Hid (n = ns.length) := hn
    rw [← hn] at e_v
    subst e_v
    clear hn
    go_enter Try.func10, Try.ntmps10
    go_upto_region 1 with fail
    generalize hV : ((w.alloc (.cells (TC (.slice sa n sc)) 24)).alloc (.cells (NC a l) 27)).alloc (.cells ZT 24) = V at *
    clear hV
    have cF0 := F0.cell
    go_wp2_with fail
    refine CR.mono ?_
    rintro e W1 ⟨rfl, z⟩
    replace F0 := F0.below z F0.lt
    replace F1 := F1.below z F1.lt
    replace R0 := R0.below z R0.lt
    replace hr := hr.below z
    replace b0 := b0.trans (z.mono b0.size)
    clear cF0 CR z
    go_wp2_with (refine blk_store _ rfl 24 _ _ rfl (w.heap.size + 2) ZT rfl rfl _ _ R0 1 tr_info rfl rfl (tk_one _ ⟨_, _, _, rfl⟩) ?_; intro W9 K9 p9)
    exact blk_ret2 rfl rfl (w.heap.size + 2) ZT 24 rfl K9 _ Try.underlying24 rfl 1 tr_info rfl (po ⟨_, rfl, Own.nil _ _ _, p9.below b0 (by omega)⟩)
end Go.Proofs.Ytiddpkppfpdfhaa.pf
