/- What is read of a text with more behind it, and of one that is cut. -/
import Derived.Test.YtolhmmnaohadcaaDoorEthBase
import Derived.Lib.IndexBytes
namespace Go.Proofs.YtolhmmnaohadcaaDoor.ethc
open Go.Proofs.YtolhmmnaohadcaaDoor.EM Go.Proofs.YtolhmmnaohadcaaDoor.ethb

theorem app_data (a b : ByteArray) : (a ++ b).data.toList = a.data.toList ++ b.data.toList := by simp
theorem bytes_ext {a b : ByteArray} (h : a.data.toList = b.data.toList) : a = b := by
  cases a; cases b; simp_all
theorem bt_app (s m : ByteArray) (k : Nat) (h : k < s.size) : bt (s ++ m) k = bt s k := by
  have hl : k < s.data.toList.length := by simpa using h
  unfold bt
  rw [app_data, List.getD_eq_getElem?_getD, List.getD_eq_getElem?_getD, List.getElem?_append_left hl]
theorem cut_data (s : ByteArray) (n : Nat) : (s.extract 0 n).data.toList = s.data.toList.take n := by
  rw [Lib.extract_data]; simp
theorem end_data (s : ByteArray) (k : Nat) : (s.extract k s.size).data.toList = s.data.toList.drop k := Lib.extract_to_end s k
theorem bt_cut (s : ByteArray) (n k : Nat) (h : k < n) : bt (s.extract 0 n) k = bt s k := by
  unfold bt
  rw [cut_data, List.getD_eq_getElem?_getD, List.getD_eq_getElem?_getD, List.getElem?_take, if_pos h]
theorem app_cut (s m : ByteArray) (k : Nat) (h : k ≤ s.size) : (s ++ m).extract k (s ++ m).size = s.extract k s.size ++ m := by
  apply bytes_ext
  have hl : k ≤ s.data.toList.length := by simpa using h
  rw [end_data, app_data, app_data, end_data, List.drop_append_of_le_length hl]
theorem cut_size (s : ByteArray) (n : Nat) (h : n ≤ s.size) : (s.extract 0 n).size = n := by rw [ByteArray.size_extract]; omega
theorem end_size (s : ByteArray) (k : Nat) : (s.extract k s.size).size = s.size - k := by rw [ByteArray.size_extract]; omega
theorem none_left (s : ByteArray) (k : Nat) : (s.extract 0 k).extract k (s.extract 0 k).size = ⟨#[]⟩ := by
  apply bytes_ext
  rw [end_data, cut_data]
  simp
theorem wd_app (s m : ByteArray) (k : Nat) (h : k + 1 < s.size) : wd (s ++ m) k = wd s k := by
  unfold wd; rw [bt_app s m k (by omega), bt_app s m (k + 1) h]
theorem wd_cut (s : ByteArray) (n k : Nat) (h : k + 1 < n) : wd (s.extract 0 n) k = wd s k := by
  unfold wd; rw [bt_cut s n k (by omega), bt_cut s n (k + 1) h]
theorem framed_app (s m : ByteArray) (v y : Int) (d : ByteArray) (h : 12 ≤ s.size) : framed (s ++ m) v y d = framed s v y d := by
  unfold framed
  rw [bt_app s m 0 (by omega), bt_app s m 1 (by omega), bt_app s m 2 (by omega), bt_app s m 3 (by omega), bt_app s m 4 (by omega), bt_app s m 5 (by omega),
    bt_app s m 6 (by omega), bt_app s m 7 (by omega), bt_app s m 8 (by omega), bt_app s m 9 (by omega), bt_app s m 10 (by omega), bt_app s m 11 (by omega)]
theorem framed_cut (s : ByteArray) (n : Nat) (v y : Int) (d : ByteArray) (h : 12 ≤ n) : framed (s.extract 0 n) v y d = framed s v y d := by
  unfold framed
  rw [bt_cut s n 0 (by omega), bt_cut s n 1 (by omega), bt_cut s n 2 (by omega), bt_cut s n 3 (by omega), bt_cut s n 4 (by omega), bt_cut s n 5 (by omega),
    bt_cut s n 6 (by omega), bt_cut s n 7 (by omega), bt_cut s n 8 (by omega), bt_cut s n 9 (by omega), bt_cut s n 10 (by omega), bt_cut s n 11 (by omega)]

/-- what a text that is read says of the texts that begin as it does -/
structure Head (s : ByteArray) (k : Nat) (v y : Int) : Prop where
  lo : 14 ≤ k
  hi : k ≤ 18
  fits : k ≤ s.size
  most : s.size ≤ 65535 + k
  self : rdf s = framed s v y (s.extract k s.size)
  more : ∀ m : ByteArray, rde (s ++ m) = if 65535 + k < s.size + m.size then 2 else 0
  moreF : ∀ m : ByteArray, s.size + m.size ≤ 65535 + k → rdf (s ++ m) = framed s v y (s.extract k s.size ++ m)
  cut : rde (s.extract 0 k) = 0
  cutF : rdf (s.extract 0 k) = framed s v y ⟨#[]⟩
  cut1 : rde (s.extract 0 (k - 1)) = 3
theorem head_of (s : ByteArray) (h : rde s = 0) : ∃ k v y, Head s k v y := by
  have h0 : ¬ s.size < 14 := fun c => by simp [rde, c] at h
  by_cases ht : wd s 12 = 33024
  · have h1 : ¬ s.size < 18 := fun c => by simp [rde, h0, ht, c] at h
    have h2 : ¬ 4095 < wd s 14 := fun c => by simp [rde, h0, ht, h1, c] at h
    have h3 : ¬ 65553 < s.size := fun c => by simp [rde, h0, ht, h1, h2, c] at h
    have hm : ∀ m : ByteArray, rde (s ++ m) = if 65535 + 18 < s.size + m.size then 2 else 0 := by
      intro m
      unfold rde
      rw [wd_app s m 12 (by omega), wd_app s m 14 (by omega), ByteArray.size_append, if_neg (by omega), if_pos ht, if_neg (by omega), if_neg h2]
    have hc : rde (s.extract 0 18) = 0 := by
      unfold rde
      rw [wd_cut s 18 12 (by omega), wd_cut s 18 14 (by omega), cut_size s 18 (by omega), if_neg (by omega), if_pos ht, if_neg (by omega), if_neg h2, if_neg (by omega)]
    refine ⟨18, wd s 14, wd s 16, by omega, by omega, by omega, by omega, ?_, hm, ?_, hc, ?_, ?_⟩
    · unfold rdf; rw [if_pos h, if_pos ht]
    · intro m hl
      unfold rdf
      rw [if_pos (by rw [hm, if_neg (by omega)]), wd_app s m 12 (by omega), wd_app s m 14 (by omega), wd_app s m 16 (by omega), if_pos ht, framed_app _ _ _ _ _ (by omega), app_cut s m 18 (by omega)]
    · unfold rdf
      rw [if_pos hc, wd_cut s 18 12 (by omega), wd_cut s 18 14 (by omega), wd_cut s 18 16 (by omega), if_pos ht, framed_cut _ _ _ _ _ (by omega), none_left s 18]
    · unfold rde
      rw [wd_cut s _ 12 (by omega), cut_size s _ (by omega), if_neg (by omega), if_pos ht, if_pos (by omega)]
  · have h3 : ¬ 65549 < s.size := fun c => by simp [rde, h0, ht, c] at h
    have hm : ∀ m : ByteArray, rde (s ++ m) = if 65535 + 14 < s.size + m.size then 2 else 0 := by
      intro m
      unfold rde
      rw [wd_app s m 12 (by omega), ByteArray.size_append, if_neg (by omega), if_neg ht]
    have hc : rde (s.extract 0 14) = 0 := by
      unfold rde
      rw [wd_cut s 14 12 (by omega), cut_size s 14 (by omega), if_neg (by omega), if_neg ht, if_neg (by omega)]
    refine ⟨14, -1, wd s 12, by omega, by omega, by omega, by omega, ?_, hm, ?_, hc, ?_, ?_⟩
    · unfold rdf; rw [if_pos h, if_neg ht]
    · intro m hl
      unfold rdf
      rw [if_pos (by rw [hm, if_neg (by omega)]), wd_app s m 12 (by omega), if_neg ht, framed_app _ _ _ _ _ (by omega), app_cut s m 14 (by omega)]
    · unfold rdf
      rw [if_pos hc, wd_cut s 14 12 (by omega), if_neg ht, framed_cut _ _ _ _ _ (by omega), none_left s 14]
    · unfold rde
      rw [cut_size s _ (by omega), if_pos (by omega)]
end Go.Proofs.YtolhmmnaohadcaaDoor.ethc
