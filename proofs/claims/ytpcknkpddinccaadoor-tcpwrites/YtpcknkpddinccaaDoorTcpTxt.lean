/- Segments: options' bytes; the error and the text that a segment is written with. -/
import Derived.Test.YtpcknkpddinccaaDoorTcpBase
import Derived.Test.YtpcknkpddinccaaDoorDgBase
namespace Go.Proofs.YtpcknkpddinccaaDoor.tct
open Go.Proofs.YtpcknkpddinccaaDoor.EM Go.Proofs.YtpcknkpddinccaaDoor.ethb Go.Proofs.YtpcknkpddinccaaDoor.SM Go.Proofs.YtpcknkpddinccaaDoor.ipb Go.Proofs.YtpcknkpddinccaaDoor.ipm Go.Proofs.YtpcknkpddinccaaDoor.onem Go.Proofs.YtpcknkpddinccaaDoor.tcb Go.Proofs.YtpcknkpddinccaaDoor.dgb

/-- an option that may be written, and its bytes -/
def ook (o : Opt) : Bool := (decide (o.ki = 1) && decide (o.d.size = 0)) || (decide (2 ≤ o.ki) && (decide (o.ki ≤ 255) && decide (o.d.size ≤ 38)))
def ot (o : Opt) : List UInt8 := if o.ki = 1 then [1] else b8 o.ki :: b8 ((o.d.size : Int) + 2) :: o.d.data.toList
def otx (os : List Opt) : List UInt8 := os.flatMap ot
def oln (os : List Opt) : Nat := (otx os).length
theorem ot_len (o : Opt) : (ot o).length = if o.ki = 1 then 1 else 2 + o.d.size := by
  unfold ot; split <;> simp; omega
theorem ot_le (o : Opt) (h : ook o = true) : (ot o).length ≤ 40 := by
  rw [ot_len o]
  simp only [ook, Bool.or_eq_true, Bool.and_eq_true, decide_eq_true_eq] at h
  split <;> omega
theorem otx_app (a b : List Opt) : otx (a ++ b) = otx a ++ otx b := by simp [otx]
theorem otx_take (os : List Opt) (k : Nat) (o : Opt) (h : os[k]? = some o) : otx (os.take (k + 1)) = otx (os.take k) ++ ot o := by
  obtain ⟨hk, ho⟩ := List.getElem?_eq_some_iff.1 h
  rw [List.take_succ_eq_append_getElem hk, otx_app, ho]; simp [otx]
theorem oln_take (os : List Opt) (k : Nat) (o : Opt) (h : os[k]? = some o) : oln (os.take (k + 1)) = oln (os.take k) + (ot o).length := by
  unfold oln; rw [otx_take os k o h, List.length_append]
theorem oln_le : ∀ (os : List Opt), (∀ o ∈ os, ook o = true) → oln os ≤ 40 * os.length
  | [], _ => by simp [oln, otx]
  | o :: r, h => by
    have ih := oln_le r (fun x hx => h x (List.mem_cons_of_mem _ hx))
    have h1 := ot_le o (h o List.mem_cons_self)
    have : oln (o :: r) = (ot o).length + oln r := by simp [oln, otx]
    rw [this]; simp; omega
def sarg (h : Sh) : Prop := h.fr < 0 ∨ 65535 < h.fr ∨ h.to < 0 ∨ 65535 < h.to ∨ h.wi < 0 ∨ 65535 < h.wi ∨ h.ur < 0 ∨ 65535 < h.ur ∨ h.fl < 0 ∨ 255 < h.fl
instance (h : Sh) : Decidable (sarg h) := by unfold sarg; infer_instance
/-- the error that a segment is written with -/
def serr (h : Sh) (os : List Opt) : Int := if sarg h then 1 else if os.all ook = false then 4 else if 40 < oln os ∨ 65455 < h.d.size then 2 else 0
structure SOk (h : Sh) (os : List Opt) : Prop where
  arg : ¬ sarg h
  opt : os.all ook = true
  o1 : oln os ≤ 40
  d1 : h.d.size ≤ 65455
theorem sok {h : Sh} {os : List Opt} (he : serr h os = 0) : SOk h os := by
  unfold serr at he
  split at he
  · omega
  · split at he
    · omega
    · split at he
      · omega
      · rename_i a b c
        exact ⟨a, by simpa using b, by omega, by omega⟩
theorem SOk.err {h : Sh} {os : List Opt} (k : SOk h os) : serr h os = 0 := by
  have := k.o1; have := k.d1
  unfold serr
  rw [if_neg k.arg, if_neg (by rw [k.opt]; simp), if_neg (by omega)]
/-- how many bytes are ahead of Data -/
def hdl (os : List Opt) : Nat := 20 + (oln os + 3) / 4 * 4
def pad (os : List Opt) : List UInt8 := List.replicate ((oln os + 3) / 4 * 4 - oln os) 0
theorem op_len (os : List Opt) : (otx os ++ pad os).length = (oln os + 3) / 4 * 4 := by
  rw [List.length_append, pad, List.length_replicate]
  show oln os + _ = _
  omega
/-- the sixteen bytes ahead of CHECK -/
def sh1 (h : Sh) (os : List Opt) : List UInt8 := [hi8 h.fr, lo8 h.fr, hi8 h.to, lo8 h.to] ++ (adr h.sq ++ (adr h.ak ++ [b8 (4 * (hdl os : Int)), b8 h.fl, hi8 h.wi, lo8 h.wi]))
theorem sh1_len (h : Sh) (os : List Opt) : (sh1 h os).length = 16 := by simp [sh1, adr]
/-- what stands behind Urgent -/
def stl (h : Sh) (os : List Opt) : List UInt8 := otx os ++ (pad os ++ h.d.data.toList)
theorem stl_len (h : Sh) (os : List Opt) : (stl h os).length = hdl os - 20 + h.d.size := by
  unfold stl
  rw [← List.append_assoc, List.length_append, op_len]; unfold hdl; simp
/-- the bytes of a segment with whatever CHECK -/
def sgx (h : Sh) (os : List Opt) (c : Int) : List UInt8 := sh1 h os ++ (hi8 c :: lo8 c :: hi8 h.ur :: lo8 h.ur :: stl h os)
theorem sgx_len (h : Sh) (os : List Opt) (c : Int) : (sgx h os c).length = hdl os + h.d.size := by
  unfold sgx
  rw [List.length_append, sh1_len]
  simp only [List.length_cons, stl_len]
  unfold hdl; omega
def sck (h : Sh) (os : List Opt) (f t : Int) : Int := 65535 - wsum 0 (und f t 6 (hdl os + h.d.size : Nat) ++ sgx h os 0)
theorem sck_bd (h : Sh) (os : List Opt) (f t : Int) : 0 ≤ sck h os f t ∧ sck h os f t ≤ 65535 := by
  unfold sck; have := wsum_bd 0 (und f t 6 (hdl os + h.d.size : Nat) ++ sgx h os 0) (by omega) (by omega); omega
def stxt (h : Sh) (os : List Opt) (f t : Int) : List UInt8 := sgx h os (sck h os f t)
def sout (h : Sh) (os : List Opt) (f t : Int) : ByteArray := if serr h os = 0 then ⟨(stxt h os f t).toArray⟩ else ⟨#[]⟩
end Go.Proofs.YtpcknkpddinccaaDoor.tct
