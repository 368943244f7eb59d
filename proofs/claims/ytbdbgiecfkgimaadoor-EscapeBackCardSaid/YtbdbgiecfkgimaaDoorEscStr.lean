/-
  Escaped texts as strings.
-/
import Derived.Test.YtbdbgiecfkgimaaDoorEscDat
import Derived.Test.YtbdbgiecfkgimaaDoorUStr
import Derived.BigQuiet
namespace Go.Proofs.YtbdbgiecfkgimaaDoor
open Go.RowKit

theorem below_drewE {K : Nat} {a w : World} (h : Below K a w) : ∀ n, Below K a (w.drewN n)
  | 0 => h
  | n + 1 => (below_drewE h n).drew
theorem bs_atE (s : ByteArray) (k : Nat) (h : k < s.size) : (bs s)[k]? = some s[k].toNat := by
  rw [List.getElem?_eq_getElem (by rw [bs_len]; exact h), bs_get s k h]
theorem bs_snocE (s : ByteArray) (k : Nat) (h : k < s.size) : (bs s).take (k + 1) = (bs s).take k ++ [s[k].toNat] := by
  rw [List.take_add_one, bs_atE s k h]
  rfl
theorem bs_endE (s : ByteArray) : (bs s).take s.size = bs s := List.take_of_length_le (by rw [bs_len]; exact Nat.le_refl _)
theorem byte_lt (s : ByteArray) (k : Nat) (h : k < s.size) : s[k].toNat < 256 := s[k].toNat_lt
theorem strB_appE (l m : List Nat) : strB l ++ strB m = strB (l ++ m) := by
  apply ba_ext
  rw [ByteArray.data_append, Array.toList_append, strB_list, strB_list, strB_list, List.map_append]
theorem strB_sizeE (l : List Nat) : (strB l).size = l.length := by
  have := congrArg List.length (strB_list l)
  rw [List.length_map] at this
  simpa using this
theorem bs_drop1E (s : ByteArray) (k : Nat) (h : k < s.size) : (bs s).drop k = s[k].toNat :: (bs s).drop (k + 1) := by
  have hl := bs_len s
  rw [List.drop_eq_getElem_cons (by omega), bs_get s k h]
def unV : Option (List Nat) → Value
  | some l => .tuple #[.string (strB l), .bool true]
  | none => .tuple #[.string ⟨#[]⟩, .bool false]
theorem by_bs (s : ByteArray) : byE (bs s) := bs_byte s
theorem unV_form (o : Option (List Nat)) : ∃ (y : ByteArray) (q : Bool), unV o = .tuple #[.string y, .bool q] := by
  rcases o with _ | l
  · exact ⟨_, _, rfl⟩
  · exact ⟨_, _, rfl⟩
theorem same_list (y : ByteArray) : (y.toList == y.toList) = true := beq_self_eq_true _
end Go.Proofs.YtbdbgiecfkgimaaDoor
