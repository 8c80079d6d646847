/- A right Schema, on plain data; A right row, on plain data. -/
import Derived.Test.YtdhicmbfknagjaaJRO13
import Derived.Test.YtdhicmbfknagjaaJRO14
import Derived.Test.YtdhicmbfknagjaaJRO15
import Derived.Test.YtdhicmbfknagjaaJRO07
namespace Go.Proofs.Ytdhicmbfknagjaa.ScP
set_option maxRecDepth 8000
open Go.RowKit
open Ls Lp VkP VkR
set_option linter.unusedVariables false
/-- All names that a field has or had. -/
def nms (f : Fld) : List ByteArray := f.name :: f.was
def hs (seen : List ByteArray) (n : ByteArray) : Bool := seen.any (fun m => m.toList == n.toList)
def dst (seen : List ByteArray) : List ByteArray → Bool
  | [] => true
  | n :: ns => !hs seen n && dst (seen ++ [n]) ns
def val (f : Fld) : Bool := if f.fixd = true then vof f.kind f.lst f.may (vluOf f) else zero (vluOf f)
def fOk (f : Fld) : Bool := decide (f.was.length ≤ 4) && kOk f.kind && (nms f).all Nm.nameOk && val f
def fA (f : Fld) : Bool := kOk f.kind && decide (f.was.length ≤ 4) && val f
def run (seen : List ByteArray) : List Fld → Bool
  | [] => true
  | f :: fs => fOk f && (dst seen (nms f) && run (seen ++ nms f) fs)
def sok (s : Sch) : Bool := Nm.nameOk s.name && inR 1 s.fields.length 20 && run [] s.fields
theorem dst_append : ∀ (a seen b : List ByteArray), dst seen (a ++ b) = (dst seen a && dst (seen ++ a) b)
  | [], seen, b => by simp [dst]
  | n :: a, seen, b => by
    simp only [List.cons_append, dst, dst_append a (seen ++ [n]) b, Bool.and_assoc, List.append_assoc, List.nil_append]
theorem run_eq : ∀ (fs : List Fld) (seen : List ByteArray), run seen fs = (fs.all fA && (fs.flatMap nms).all Nm.nameOk && dst seen (fs.flatMap nms))
  | [], seen => by simp [run, dst]
  | f :: fs, seen => by
    simp only [run, run_eq fs, List.flatMap_cons, List.all_cons, List.all_append, dst_append, fOk, fA]
    cases decide (f.was.length ≤ 4) <;> cases kOk f.kind <;> cases val f <;> cases (nms f).all Nm.nameOk <;> cases dst seen (nms f) <;> cases fs.all fA <;> cases (fs.flatMap nms).all Nm.nameOk <;> simp
theorem hs_push (seen : List ByteArray) (n s : ByteArray) : hs (seen ++ [n]) s = (hs seen s || (n.toList == s.toList)) := by simp [hs]
theorem dst_step {ns : List ByteArray} {k : Nat} (h : k < ns.length) (seen : List ByteArray) : dst (seen ++ ns.take k) (ns.drop k) = (!hs (seen ++ ns.take k) (ns.getD k default) && dst (seen ++ ns.take (k + 1)) (ns.drop (k + 1))) := by
  rw [drop_cons h, dst, List.take_succ_eq_append_getElem h]
  simp [h]
theorem run_step {fs : List Fld} {k : Nat} (h : k < fs.length) (seen : List ByteArray) : run seen (fs.drop k) = (fOk (fs.getD k default) && (dst seen (nms (fs.getD k default)) && run (seen ++ nms (fs.getD k default)) (fs.drop (k + 1)))) := by
  rw [drop_cons h, run]
theorem sz_name {f : Fld} (h : szFld f ≤ 1048576) : f.name.size ≤ 1048576 := by unfold szFld at h; omega
theorem sz_was {f : Fld} (h : szFld f ≤ 1048576) : szL ByteArray.size f.was ≤ 1048576 := by unfold szFld at h; omega
theorem len_was {f : Fld} (h : szFld f ≤ 1048576) : f.was.length ≤ 1048576 := szL_len _ (sz_was h)
theorem sz_nms {f : Fld} (h : szFld f ≤ 1048576) {k : Nat} (hk : k < (nms f).length) : ((nms f).getD k default).size ≤ 1048576 := by
  cases k with
  | zero => exact sz_name h
  | succ k =>
    have hk' : k < f.was.length := by simpa [nms] using hk
    have := szL_one ByteArray.size (sz_was h) hk'
    simpa [nms] using this
end Go.Proofs.Ytdhicmbfknagjaa.ScP
namespace Go.Proofs.Ytdhicmbfknagjaa.RoP
set_option maxRecDepth 8000
open Go.RowKit
open Ls Lp VkP VkR ScP
set_option linter.unusedVariables false
def oneAt (fs : List Fld) (us : List Vlu) (k : Nat) : Bool := vof (fs.getD k default).kind (fs.getD k default).lst (fs.getD k default).may (us.getD k default)
def rowL (fs : List Fld) (us : List Vlu) (n : Nat) : Bool := (List.range n).all (oneAt fs us)
def rowOk (s : Sch) (us : List Vlu) : Bool := sok s && (decide (us.length = s.fields.length) && rowL s.fields us s.fields.length)
theorem rowL_zero (fs : List Fld) (us : List Vlu) : rowL fs us 0 = true := rfl
theorem rowL_next {fs : List Fld} {us : List Vlu} {k : Nat} (h : rowL fs us k = true) (h1 : oneAt fs us k = true) : rowL fs us (k + 1) = true := by
  unfold rowL at *
  rw [List.range_succ, List.all_append, h]
  simp [h1]
theorem rowL_bad {fs : List Fld} {us : List Vlu} {k n : Nat} (hk : k < n) (h1 : oneAt fs us k = false) : rowL fs us n = false := by
  unfold rowL
  exact List.all_eq_false.2 ⟨k, List.mem_range.2 hk, by simp [h1]⟩
theorem rowL_at {fs : List Fld} {us : List Vlu} {k n : Nat} (hk : k < n) (h : rowL fs us n = true) : oneAt fs us k = true := by
  unfold rowL at h
  exact List.all_eq_true.1 h k (List.mem_range.2 hk)
end Go.Proofs.Ytdhicmbfknagjaa.RoP
