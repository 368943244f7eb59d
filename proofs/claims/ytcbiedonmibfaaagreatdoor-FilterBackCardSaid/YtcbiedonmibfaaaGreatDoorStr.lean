/-
  A slice of bytes as a string.
-/
import Derived.Test.YtcbiedonmibfaaaGreatDoorWA
import Derived.Laws.BytesArg
namespace Go.Proofs.YtcbiedonmibfaaaGreatDoor
open Go.RowKit
def strB (l : List Nat) : ByteArray := strOfNums (l.map fun (n : Nat) => (n : Int))
theorem strB_list (l : List Nat) : (strB l).data.toList = l.map UInt8.ofNat := by
 rw [strB, strOfNums_data, List.map_map]
 congr 1
theorem strB_inj {l m : List Nat} (hl : ∀ x ∈ l, x < 256) (hm : ∀ x ∈ m, x < 256) (e : strB l = strB m) : l = m := by
 have h : l.map UInt8.ofNat = m.map UInt8.ofNat := by rw [← strB_list, ← strB_list, e]
 clear e
 induction l generalizing m with
 | nil => cases m with
   | nil => rfl
   | cons b m => cases h
 | cons a l ih =>
   cases m with
   | nil => cases h
   | cons b m =>
     rw [List.map_cons, List.map_cons] at h
     injection h with h1 h2
     have ha := hl a (List.mem_cons_self ..)
     have hb := hm b (List.mem_cons_self ..)
     have h3 : a = b := by
      have := congrArg UInt8.toNat h1
      rw [UInt8.toNat_ofNat', UInt8.toNat_ofNat', Nat.mod_eq_of_lt (by omega), Nat.mod_eq_of_lt (by omega)] at this
      exact this
     rw [h3, ih (fun x hx => hl x (List.mem_cons_of_mem _ hx)) (fun x hx => hm x (List.mem_cons_of_mem _ hx)) h2]
theorem Src.conv {W : World} {K : Nat} {A : Option Addr} {c : Nat} {l : List Nat} (h : Src W K A c l) : (convert 40 9 (.slice A l.length c)).run Tryz.prog W = .ok (.string (strB l)) W := by
 rcases A with _ | ad
 · have hl : l = [] := List.eq_nil_of_length_eq_zero (by have := h.nil rfl; have := h.le; omega)
   subst hl
   rw [run_convert_bytes_nil W 40 5 Tryz.underlying40 Tryz.underlying5 _ _ 9 Tryz.underlying9]
   rfl
 · have hl : (loadCells ad l.length).run Tryz.prog W = .ok ((l.map fun (n : Nat) => (n : Int)).map (Value.int .u8)).toArray W := by
    have := run_loadCells_list (P := Tryz.prog) W ad ((l.map fun (n : Nat) => (n : Int)).map (Value.int .u8)) (fun j v hj => by
     rw [List.map_map, List.getElem?_map, Option.map_eq_some_iff] at hj
     obtain ⟨n, hj, rfl⟩ := hj
     exact (h.at_ ad rfl).2 j n hj)
    simpa using this
   rw [run_convert_bytes_string W 40 9 5 _ l.length c Tryz.underlying40 Tryz.underlying5 Tryz.underlying9, run_bytesToString W _ l.length c _ hl, foldl_push_bytes]
   simp [strB, strOfNums, ByteArray.empty, ByteArray.emptyWithCapacity]
   rfl
end Go.Proofs.YtcbiedonmibfaaaGreatDoor
