/-
  Strings as lists of bytes.
-/
import Derived.Test.YtcbiedonmibfaaaGreatDoorDT
import Derived.Test.YtcbiedonmibfaaaGreatDoorStr
namespace Go.Proofs.YtcbiedonmibfaaaGreatDoor
open Go.RowKit
def bs (s : ByteArray) : List Nat := s.data.toList.map UInt8.toNat
theorem bs_len (s : ByteArray) : (bs s).length = s.size := by simp [bs]
theorem bs_byte (s : ByteArray) : ∀ x ∈ bs s, x < 256 := by
 intro x hx
 obtain ⟨c, _, rfl⟩ := List.mem_map.1 hx
 exact c.toNat_lt
theorem bs_get (s : ByteArray) (k : Nat) (h : k < s.size) : (bs s)[k]'(by rw [bs_len]; exact h) = s[k].toNat := by
 unfold bs
 rw [List.getElem_map]
 rfl
theorem bs_strB (l : List Nat) (h : ∀ x ∈ l, x < 256) : bs (strB l) = l := by
 unfold bs
 rw [strB_list, List.map_map]
 conv => rhs; rw [← List.map_id l]
 refine List.map_congr_left fun x hx => ?_
 show (UInt8.ofNat x).toNat = x
 rw [UInt8.toNat_ofNat', Nat.mod_eq_of_lt (h x hx)]
theorem ba_ext {s t : ByteArray} (h : s.data.toList = t.data.toList) : s = t := congrArg ByteArray.mk (Array.ext' h)
theorem strB_bs (s : ByteArray) : strB (bs s) = s := by
 refine ba_ext ?_
 rw [strB_list]
 unfold bs
 rw [List.map_map]
 conv => rhs; rw [← List.map_id s.data.toList]
 refine List.map_congr_left fun x _ => ?_
 show UInt8.ofNat x.toNat = x
 exact UInt8.ofNat_toNat
theorem bs_inj {s t : ByteArray} (h : bs s = bs t) : s = t := by rw [← strB_bs s, h, strB_bs]
theorem bs_extract (s : ByteArray) (i j : Nat) : bs (s.extract i j) = ((bs s).take j).drop i := by
 unfold bs
 rw [ByteArray.data_extract, Array.toList_extract, List.extract_eq_take_drop, List.map_take, List.map_drop, List.drop_take]
end Go.Proofs.YtcbiedonmibfaaaGreatDoor
