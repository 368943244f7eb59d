/-
  Strings as lists of bytes, where the program has no slice of bytes.
-/
import Derived.Test.YtdojbgfkcleeaaaDoorRows
import Derived.Handy
import Derived.Lib.Hide
namespace Go.Proofs.YtdojbgfkcleeaaaDoor
open Go.RowKit

def strB (l : List Nat) : ByteArray := ⟨(l.map UInt8.ofNat).toArray⟩
theorem strB_list (l : List Nat) : (strB l).data.toList = l.map UInt8.ofNat := rfl
/-- The bytes of a string. -/
def bs (s : ByteArray) : List Nat := s.data.toList.map UInt8.toNat
theorem bs_len (s : ByteArray) : (bs s).length = s.size := by simp [bs]
theorem bs_byte (s : ByteArray) : ∀ x ∈ bs s, x < 256 := by
  intro x hx
  obtain ⟨c, _, rfl⟩ := List.mem_map.1 hx
  exact c.toNat_lt
theorem bs_get (s : ByteArray) (k : Nat) (h : k < s.size) : (bs s)[k]'(by rw [bs_len]; exact h) = s[k].toNat := by
  unfold bs
  rw [List.getElem_map]
  rfl
theorem bs_strB (l : List Nat) (h : ∀ x ∈ l, x < 256) : bs (strB l) = l := by
  unfold bs
  rw [strB_list, List.map_map]
  conv => rhs; rw [← List.map_id l]
  refine List.map_congr_left fun x hx => ?_
  show (UInt8.ofNat x).toNat = x
  rw [UInt8.toNat_ofNat', Nat.mod_eq_of_lt (h x hx)]
theorem ba_ext {s t : ByteArray} (h : s.data.toList = t.data.toList) : s = t := congrArg ByteArray.mk (Array.ext' h)
theorem strB_bs (s : ByteArray) : strB (bs s) = s := by
  refine ba_ext ?_
  rw [strB_list]
  unfold bs
  rw [List.map_map]
  conv => rhs; rw [← List.map_id s.data.toList]
  refine List.map_congr_left fun x _ => ?_
  show UInt8.ofNat x.toNat = x
  exact UInt8.ofNat_toNat
theorem bs_inj {s t : ByteArray} (h : bs s = bs t) : s = t := by rw [← strB_bs s, h, strB_bs]
theorem bs_extract (s : ByteArray) (i j : Nat) : bs (s.extract i j) = ((bs s).take j).drop i := by
  unfold bs
  rw [ByteArray.data_extract, Array.toList_extract, List.extract_eq_take_drop, List.map_take, List.map_drop, List.drop_take]
theorem bs_append (s t : ByteArray) : bs (s ++ t) = bs s ++ bs t := by
  unfold bs
  rw [ByteArray.data_append, Array.toList_append, List.map_append]
theorem bs_rest (x x' : ByteArray) (n : Nat) (h : x.extract n x.size = x') : bs x' = (bs x).drop n := by
  rw [← h, bs_extract, ← bs_len x, List.take_length]
theorem bs_own (x x' : ByteArray) (n : Nat) (h : x.extract 0 n = x') : bs x' = (bs x).take n := by
  rw [← h, bs_extract, List.drop_zero]
theorem size_app (a b : ByteArray) : (a ++ b).size = a.size + b.size := by
  rw [← bs_len, bs_append, List.length_append, bs_len, bs_len]
theorem str_eq (x t : ByteArray) : (x.toList == t.toList) = decide (bs x = bs t) := by
  rw [ByteArray.toList_eq, ByteArray.toList_eq, Bool.eq_iff_iff, beq_iff_eq, decide_eq_true_eq]
  constructor
  · intro h
    rw [ba_ext h]
  · intro h
    rw [bs_inj h]
end Go.Proofs.YtdojbgfkcleeaaaDoor
