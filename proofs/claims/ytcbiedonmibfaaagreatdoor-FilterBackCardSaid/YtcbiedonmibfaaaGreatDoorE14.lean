/-
  Small laws, out of EscStr, EscF10, Bld10, PHex10, FDat, FDec, FNext, PHigh10, EHHex, PHexO10, PEscF10, PEscP10, PFilt10, RefEsc, RefUnhex, PUnhex10, Unesc10, PEscd10, PCut10, PUnescW10, PAny10, for a seat without the functions that those reach.
-/
import Derived.Test.YtcbiedonmibfaaaGreatDoorDT
import Derived.Test.YtcbiedonmibfaaaGreatDoorWA
import Derived.Test.YtcbiedonmibfaaaGreatDoorStr
import Derived.Test.YtcbiedonmibfaaaGreatDoorUStr
import Derived.Test.YtcbiedonmibfaaaGreatDoorShelf
import Derived.BigQuiet
import Derived.Shelf.Strings.BuilderF
import Derived.Lib.FrozenHead2
import Derived.BigGuardPart
import Derived.Lib.MapLaws
import Derived.Lib.TrimByte
import Derived.Lib.DecodeN
import Derived.Lib.AppendIntMem
import Derived.Laws.EntriesVeiled
import Derived.OwnWalk
import Derived.Lib.Bytealg
import Derived.Lib.CutLaws
import Derived.WalkMore
namespace Go.Proofs.YtcbiedonmibfaaaGreatDoor
open Go.RowKit
open Go.RowKit Go.Lib
theorem below_drewE {K : Nat} {a w : World} (h : Below K a w) : ∀ n, Below K a (w.drewN n)
 | 0 => h
 | n + 1 => (below_drewE h n).drew
theorem bs_atE (s : ByteArray) (k : Nat) (h : k < s.size) : (bs s)[k]? = some s[k].toNat := by
 rw [List.getElem?_eq_getElem (by rw [bs_len]; exact h), bs_get s k h]
theorem bs_snocE (s : ByteArray) (k : Nat) (h : k < s.size) : (bs s).take (k + 1) = (bs s).take k ++ [s[k].toNat] := by
 rw [List.take_add_one, bs_atE s k h]
 rfl
theorem bs_endE (s : ByteArray) : (bs s).take s.size = bs s := List.take_of_length_le (by rw [bs_len]; exact Nat.le_refl _)
theorem byte_lt (s : ByteArray) (k : Nat) (h : k < s.size) : s[k].toNat < 256 := s[k].toNat_lt
theorem strB_appE (l m : List Nat) : strB l ++ strB m = strB (l ++ m) := by
 apply ba_ext
 rw [ByteArray.data_append, Array.toList_append, strB_list, strB_list, strB_list, List.map_append]
theorem strB_sizeE (l : List Nat) : (strB l).size = l.length := by
 have := congrArg List.length (strB_list l)
 rw [List.length_map] at this
 simpa using this
theorem bs_drop1E (s : ByteArray) (k : Nat) (h : k < s.size) : (bs s).drop k = s[k].toNat :: (bs s).drop (k + 1) := by
 have hl := bs_len s
 rw [List.drop_eq_getElem_cons (by omega), bs_get s k h]
def unV : Option (List Nat) → Value
 | some l => .tuple #[.string (strB l), .bool true]
 | none => .tuple #[.string ⟨#[]⟩, .bool false]
theorem by_bs (s : ByteArray) : byE (bs s) := bs_byte s
theorem unV_form (o : Option (List Nat)) : ∃ (y : ByteArray) (q : Bool), unV o = .tuple #[.string y, .bool q] := by
 rcases o with _ | l
 · exact ⟨_, _, rfl⟩
 · exact ⟨_, _, rfl⟩
def esc1 (m d : Bool) (c : Nat) : List Nat := if d = true then [92] ++ twoE c else if m = true then [92] ++ [c] else [c]
def escF (mk cd : Nat → Bool) (l : List Nat) : Nat → List Nat
 | 0 => []
 | k + 1 => escF mk cd l k ++ (match l[k]? with
   | some c => esc1 (mk k) (cd k) c
   | none => [])
theorem escF_succ (mk cd : Nat → Bool) (s : ByteArray) (k : Nat) (h : k < s.size) : escF mk cd (bs s) (k + 1) = escF mk cd (bs s) k ++ esc1 (mk k) (cd k) s[k].toNat := by
 conv => lhs; unfold escF
 rw [bs_atE s k h]
theorem esc1_len (m d : Bool) (c : Nat) : (esc1 m d c).length ≤ 3 := by
 unfold esc1
 split
 · exact Nat.le_refl _
 · split <;> simp
theorem escF_len (mk cd : Nat → Bool) (l : List Nat) : ∀ k, (escF mk cd l k).length ≤ 3 * k
 | 0 => Nat.le_refl _
 | k + 1 => by
   have ih := escF_len mk cd l k
   unfold escF
   rw [List.length_append]
   split
   · rename_i c _
     have := esc1_len (mk k) (cd k) c
     omega
   · simp only [List.length_nil]; omega
def codF (r : Bool) (l : List Nat) (k : Nat) : Bool := match l[k]? with
 | some c => decide (c = 92 ∨ c = 42 ∨ c = 40 ∨ c = 41 ∨ c = 0 ∨ 127 < c ∧ r = false)
 | none => false
theorem filter_esc (r : Bool) (l : List Nat) : ∀ k, k ≤ l.length → escF (fun _ => false) (codF r l) l k = filterE r (l.take k)
 | 0, _ => rfl
 | k + 1, h => by
   have hk : k < l.length := by omega
   have ih := filter_esc r l k (by omega)
   conv => lhs; unfold escF
   rw [ih, List.getElem?_eq_getElem hk, List.take_succ_eq_append_getElem hk, filter_app]
   congr 1
   show _ = filt1 r l[k] ++ []
   rw [List.append_nil]
   unfold esc1 filt1 codF
   simp only [List.getElem?_eq_getElem hk, decide_eq_true_eq]
   obtain ⟨c, hc⟩ : ∃ c, l[k] = c := ⟨_, rfl⟩
   rw [hc]
   by_cases h1 : c = 92 ∨ c = 42 ∨ c = 40 ∨ c = 41 ∨ c = 0 ∨ 127 < c ∧ r = false
   · rw [if_pos h1, if_pos (by rcases h1 with h | h | h | h | h | h <;> simp [h])]
     rfl
   · rw [if_neg h1, if_neg (show ¬ (false = true) from Bool.false_ne_true), if_neg (fun h2 => h1 (by rcases h2 with h | h | h | h | h | h <;> simp [h]))]
def codP (r : Bool) (l : List Nat) (k : Nat) : Bool := match l[k]? with
 | some c => decide (c < 32 ∨ c = 127 ∨ 127 < c ∧ r = false)
 | none => false
def mrkP (l : List Nat) (k : Nat) : Bool := match l[k]? with
 | some c => decide (c = 32 ∧ (k = 0 ∨ k + 1 = l.length) ∨ c = 35 ∧ k = 0 ∨ stopE c = true ∨ c = 92)
 | none => false
theorem put_from (r : Bool) (l : List Nat) : ∀ k, k ≤ l.length → escF (mrkP l) (codP r l) l k ++ putE r (decide (k = 0)) (l.drop k) = putE r true l
 | 0, _ => rfl
 | k + 1, h => by
   have hk : k < l.length := by omega
   have ih := put_from r l k (by omega)
   rw [← ih]
   conv => lhs; unfold escF
   rw [List.getElem?_eq_getElem hk, List.append_assoc, List.drop_eq_getElem_cons hk]
   congr 1
   show esc1 _ _ _ ++ putE r (decide (k + 1 = 0)) _ = put1 r (decide (k = 0)) ((l.drop (k + 1)).isEmpty) l[k] ++ putE r false (l.drop (k + 1))
   congr 1
   have he : (l.drop (k + 1)).isEmpty = decide (k + 1 = l.length) := by
    refine Bool.eq_iff_iff.2 ?_
    simp only [List.isEmpty_iff, decide_eq_true_iff, List.drop_eq_nil_iff]
    omega
   rw [he]
   unfold esc1 put1 codP mrkP
   simp only [List.getElem?_eq_getElem hk, decide_eq_true_eq]
   obtain ⟨c, hc⟩ : ∃ c, l[k] = c := ⟨_, rfl⟩
   rw [hc]
   by_cases h1 : stopE c = true ∨ c = 92 ∨ c = 32 ∧ (k = 0 ∨ k + 1 = l.length) ∨ c = 35 ∧ k = 0
   · have h2 : ¬ (c < 32 ∨ c = 127 ∨ 127 < c ∧ r = false) := by
      have h3 : stopE c = true → 32 ≤ c ∧ c < 127 := fun h => by
       unfold stopE at h
       have := of_decide_eq_true h
       omega
      rcases h1 with h1 | h1 | h1 | h1
      · have := h3 h1; omega
      · omega
      · omega
      · omega
     have h4 : c = 32 ∧ (k = 0 ∨ k + 1 = l.length) ∨ c = 35 ∧ k = 0 ∨ stopE c = true ∨ c = 92 := by
      rcases h1 with h1 | h1 | h1 | h1
      · exact .inr (.inr (.inl h1))
      · exact .inr (.inr (.inr h1))
      · exact .inl h1
      · exact .inr (.inl h1)
     rw [if_neg h2, if_pos h4, if_pos h1]
     rfl
   · have h4 : ¬ (c = 32 ∧ (k = 0 ∨ k + 1 = l.length) ∨ c = 35 ∧ k = 0 ∨ stopE c = true ∨ c = 92) := fun h => h1 (by
      rcases h with h | h | h | h
      · exact .inr (.inr (.inl h))
      · exact .inr (.inr (.inr h))
      · exact .inl h
      · exact .inr (.inl h))
     rw [if_neg h4, if_neg h1]
     rfl
set_option maxHeartbeats 1000000 in
set_option maxRecDepth 100000 in
theorem bcheck_used (b : Nat) (w : World) (h0 : w.cell? ⟨b, 0, none⟩ = some (.pointer (some ⟨b, 0, none⟩))) :
 Calls Tryz.prog 104 #[.pointer (some ⟨b, 0, none⟩)] w fun e w' => e = .returned (.tuple #[]) ∧ w' = w := by
 have X : (Tryz.prog.info? 74).map (·.size) = some 2 := by kernel_rfl
 obtain ⟨j, hj, _⟩ := Option.map_eq_some_iff.1 X
 go_enter Tryz.func104, Tryz.ntmps104
 go_wp2
 rw [Lib.run_neq_ptr_same w _ Tryz.underlying72 hj]
 go_wp2
 go_end0
 exact ⟨rfl, rfl⟩
set_option maxHeartbeats 1000000 in
set_option maxRecDepth 100000 in
theorem bcheck_fresh (b : Nat) (w : World) (h0 : w.cell? ⟨b, 0, none⟩ = some (.pointer none)) (hsh : w.shape? b = some (74, 2)) (hfz : w.frozen? ⟨b, 0, none⟩ = false) :
 Calls Tryz.prog 104 #[.pointer (some ⟨b, 0, none⟩)] w fun e w' => e = .returned (.tuple #[]) ∧ w' = w.setCell ⟨b, 0, none⟩ (.pointer (some ⟨b, 0, none⟩)) := by
 have X : (Tryz.prog.info? 74).map (·.size) = some 2 := by kernel_rfl
 obtain ⟨j, hj, hjs⟩ := Option.map_eq_some_iff.1 X
 have XL : liesAt Tryz.prog Tryz.prog.depth 74 (2 / Tryz.prog.cellsOf 74) 0 74 1 = true := by kernel_rfl
 go_enter Tryz.func104, Tryz.ntmps104
 go_wp2
 rw [Lib.run_to_unsafe w ⟨b, 0, none⟩ Tryz.underlying72 Tryz.underlying171 hj (by rw [hjs]; decide) hsh (Nat.zero_lt_succ 1)]
 simp only [Result.andThen]
 rw [Oper.upon_value]
 go_wp2
 rw [run_callFunc_extern Tryz.func151 (by kernel_rfl) (by kernel_rfl) (by kernel_rfl) (e := Extern.AbiNoEscape.same) (by kernel_rfl)]
 rw [Lib.run_noEscape]
 simp only [Result.andThen]
 rw [Oper.upon_value]
 go_wp2
 rw [Lib.run_from_unsafe w ⟨b, 0, none⟩ Tryz.underlying171 Tryz.underlying72 hj hsh XL]
 simp only [Result.andThen]
 rw [Oper.upon_value]
 go_wp2
 go_end0
 exact ⟨rfl, rfl⟩
theorem bcheck_any (B b : Nat) (bs : List Value) (w : World) (h : Lib.IsBuilderF 74 5 B b bs w) :
 Calls Tryz.prog 104 #[.pointer (some ⟨b, 0, none⟩)] w fun e w' => e = .returned (.tuple #[]) ∧ (Lib.BuilderAtF 74 5 B b (.pointer (some ⟨b, 0, none⟩)) bs w' ∧ Below B w w') := by
 rcases h with h | h
 · refine (bcheck_fresh b w h.cell0 h.shape h.frozen0).mono ?_
   rintro e w' ⟨rfl, rfl⟩
   exact ⟨rfl, h.used _, (Below.refl B w).setCell (p := ⟨b, 0, none⟩) h.1 _⟩
 · refine (bcheck_used b w h.cell0).mono ?_
   rintro e w' ⟨rfl, rfl⟩
   exact ⟨rfl, h, Below.refl B _⟩
set_option maxHeartbeats 2000000 in
set_option maxRecDepth 100000 in
theorem wstr_any (B b : Nat) (bs : List Value) (s : ByteArray) (w : World) (h : Lib.IsBuilderF 74 5 B b bs w) (hlen : bs.length + s.size ≤ 140737488355328) (hBw : B ≤ w.heap.size) :
 Calls Tryz.prog 59 #[.pointer (some ⟨b, 0, none⟩), .string s] w fun e w' => e = .returned (.tuple #[.int .i64 s.size, .nilIface]) ∧ (Lib.IsBuilderF 74 5 B b (bs ++ Lib.strCells s) w' ∧ Below B w w') := by
 have XB : (Tryz.prog.info? 5).map (fun i => (i.zero, i.size, i.bytes)) = some (some (.int .u8 0), 1, 1) := by kernel_rfl
 obtain ⟨i0, hi, hz0, hz1, hz2⟩ := info_parts XB
 have CC := Hd (bcheck_any B b bs w h)
 clear h
 go_enter Tryz.func59, Tryz.ntmps59
 go_wp2_with fail
 refine CC.out.mono ?_
 rintro _ w1 ⟨rfl, h1, hb1⟩
 obtain ⟨hB, v, hbk, hown, hne⟩ := h1
 have c0 : w1.cell? ⟨b, 0, none⟩ = some (.pointer (some ⟨b, 0, none⟩)) := by rw [Lib.cell_of_heap hbk]; rfl
 have c1 : w1.cell? ⟨b, 1, none⟩ = some v := by rw [Lib.cell_of_heap hbk]; rfl
 go_wp2_with (at_builtin; refine Lib.wpList_append_own_stringF _ rfl _ _ 40 9 rfl B 5 i0 Tryz.underlying40 Tryz.underlying9 hi hz0 hz1 hz2 _ _ _ rfl hown s rfl ?c3 ?c4 ?c5 ?_)
 case c3 => unfold maxLen; omega
 case c4 => omega
 case c5 => have := hb1.size; omega
 intro v' w2 hown' hgrow _
 have hlt : b < w1.heap.size := by
  rcases Nat.lt_or_ge b w1.heap.size with h' | h'
  · exact h'
  · simp [Array.getElem?_eq_none h'] at hbk
 have hb2 : w2.heap[b]? = some (.cells #[.pointer (some ⟨b, 0, none⟩), v] 74 (0, 0)) := by
  rw [hgrow.block b hlt (fun e => hne e.symm)]
  exact hbk
 have d0 : w2.cell? ⟨b, 0, none⟩ = some (.pointer (some ⟨b, 0, none⟩)) := by rw [Lib.cell_of_heap hb2]; rfl
 have d1 : w2.cell? ⟨b, 1, none⟩ = some v := by rw [Lib.cell_of_heap hb2]; rfl
 have f1 : w2.frozen? ⟨b, 1, none⟩ = false := Lib.frozen_of_heap hb2 1
 obtain ⟨ao, n', cap, rfl⟩ : ∃ ao n' cap, v' = .slice ao n' cap := by
  rcases hown'.2 with ⟨hv, _⟩ | ⟨g, cap, cur, fz, hv, _⟩
  · exact ⟨_, _, _, hv⟩
  · exact ⟨_, _, _, hv⟩
 go_wp2
 go_ret2
 refine ⟨rfl, .inr ?_, ?_⟩
 · exact Lib.BuilderAtF.put (T := 74) (e := 5) hB hb2 (bs' := bs ++ Lib.strCells s) (by simpa [Lib.strCells_length] using hown') (by decide)
 · exact (hb1.grown hgrow (by have := hb1.size; omega) (fun k hk => (hown.lt k hk).1)).setCell (p := ⟨b, 1, none⟩) hB _
set_option maxHeartbeats 2000000 in
set_option maxRecDepth 100000 in
theorem wbyte_any (B b : Nat) (bs : List Value) (c : Int) (w : World) (h : Lib.IsBuilderF 74 5 B b bs w) (hlen : bs.length + 1 ≤ 140737488355328) (hBw : B ≤ w.heap.size) :
 Calls Tryz.prog 156 #[.pointer (some ⟨b, 0, none⟩), .int .u8 c] w fun e w' => e = .returned .nilIface ∧ (Lib.IsBuilderF 74 5 B b (bs ++ [.int .u8 c]) w' ∧ Below B w w') := by
 have XB : (Tryz.prog.info? 5).map (fun i => (i.zero, i.size, i.bytes)) = some (some (.int .u8 0), 1, 1) := by kernel_rfl
 obtain ⟨i0, hi, hz0, hz1, hz2⟩ := info_parts XB
 have CC := Hd (bcheck_any B b bs w h)
 clear h
 go_enter Tryz.func156, Tryz.ntmps156
 go_wp2_with fail
 refine CC.out.mono ?_
 rintro _ w1 ⟨rfl, h1, hb1⟩
 obtain ⟨hB, v, hbk, hown, hne⟩ := h1
 have c0 : w1.cell? ⟨b, 0, none⟩ = some (.pointer (some ⟨b, 0, none⟩)) := by rw [Lib.cell_of_heap hbk]; rfl
 have c1 : w1.cell? ⟨b, 1, none⟩ = some v := by rw [Lib.cell_of_heap hbk]; rfl
 go_wp2_with (at_builtin; refine wpList_append_ownF _ rfl _ _ 40 rfl B 5 i0 (.int .u8 0) 1 1 Tryz.underlying40 hi hz0 hz1 hz2 rfl (by decide) _ _ _ rfl (hown.alloc _) ⟨w1.heap.size, 0, none⟩ 1 1 [.int .u8 c] rfl rfl ?c1 ?c2 ?c3 ?c4 ?c5 ?_)
 case c1 =>
  intro j u hj
  match j, hj with
  | 0, hj => simp at hj; subst hj; simp [Addr.add]
 case c2 => intro u hu; simp at hu; subst hu; rfl
 case c3 => unfold maxLen; omega
 case c4 => omega
 case c5 => have := hb1.size; simp; omega
 intro v' w2 hown' hgrow _
 have hlt : b < w1.heap.size := by
  rcases Nat.lt_or_ge b w1.heap.size with h' | h'
  · exact h'
  · simp [Array.getElem?_eq_none h'] at hbk
 have hb2 : w2.heap[b]? = some (.cells #[.pointer (some ⟨b, 0, none⟩), v] 74 (0, 0)) := by
  rw [hgrow.block b (by simp; omega) (fun e => hne e.symm), Lib.alloc_old w1 _ b hlt]
  exact hbk
 have d0 : w2.cell? ⟨b, 0, none⟩ = some (.pointer (some ⟨b, 0, none⟩)) := by rw [Lib.cell_of_heap hb2]; rfl
 have d1 : w2.cell? ⟨b, 1, none⟩ = some v := by rw [Lib.cell_of_heap hb2]; rfl
 have f1 : w2.frozen? ⟨b, 1, none⟩ = false := Lib.frozen_of_heap hb2 1
 obtain ⟨g, cap, rfl⟩ : ∃ g cap, v' = .slice (some ⟨g, 0, none⟩) (bs.length + 1) cap := by
  rcases hown'.2 with ⟨_, h0⟩ | ⟨g, cap, cur, fz, hv, _⟩
  · omega
  · exact ⟨g, cap, hv⟩
 go_wp2
 go_ret
 refine ⟨rfl, .inr ?_, ?_⟩
 · exact Lib.BuilderAtF.put (T := 74) (e := 5) hB hb2 (bs' := bs ++ [.int .u8 c]) (by simpa using hown') (by decide)
 · exact ((hb1.alloc (by have := hb1.size; omega) _).grown hgrow (by have := hb1.size; simp; omega) (fun k hk => (hown.lt k hk).1)).setCell (p := ⟨b, 1, none⟩) hB _
def BldN (w : World) (base b : Nat) (l : List Nat) : Prop := byE l ∧ Lib.IsBuilderF 74 5 base b (cellsB l) w
theorem byE_app {l m : List Nat} (h : byE l) (k : byE m) : byE (l ++ m) := fun c hc => (List.mem_append.1 hc).elim (h c) (k c)
theorem byE_one {c : Nat} (h : c < 256) : byE [c] := fun d hd => by rw [List.mem_singleton.1 hd]; exact h
theorem strCells_bs (s : ByteArray) : Lib.strCells s = cellsB (bs s) := by
 unfold Lib.strCells cellsB bs
 rw [List.map_map]
 rfl
theorem byteCells_nat {l : List Nat} (h : byE l) : Lib.byteCells (strB l).data.toList = cellsB l := by
 have e : Lib.byteCells (strB l).data.toList = Lib.strCells (strB l) := rfl
 rw [e, strCells_bs, bs_strB l h]
theorem BldN.new (w : World) : BldN (w.alloc (.cells #[.pointer none, .slice none 0 0] 74)) w.heap.size w.heap.size [] := ⟨fun _ hc => absurd hc List.not_mem_nil, Lib.IsBuilderF.of (Lib.fresh_isBuilder _ _ _)⟩
theorem BldN.below {w w' : World} {base b : Nat} {l : List Nat} (h : BldN w base b l) (hb : Below w.heap.size w w') : BldN w' base b l := by
 have key : ∀ p, Lib.BuilderAtF 74 5 base b p (cellsB l) w → Lib.BuilderAtF 74 5 base b p (cellsB l) w' := by
  intro p h
  have hlt := h.lt
  obtain ⟨hB, v, hv, hown, hne⟩ := h
  exact ⟨hB, v, (hb.block b hlt).trans hv, hown.kept (row := none) ⟨hb.os, hb.tape, hb.output, hb.size, fun k hk _ => hb.block k hk⟩ (Classical.em _), hne⟩
 exact ⟨h.1, h.2.elim (fun x => .inl (key _ x)) (fun x => .inr (key _ x))⟩
theorem bld_byte (base b : Nat) (l : List Nat) (c : Nat) (w : World) (h : BldN w base b l) (hc : c < 256) (hlen : l.length ≤ 1000000) (hB : base ≤ w.heap.size) :
 Calls Tryz.prog 156 #[.pointer (some ⟨b, 0, none⟩), .int .u8 (c : Int)] w fun e w' => e = .returned .nilIface ∧ BldN w' base b (l ++ [c]) ∧ Below base w w' := by
 refine (wbyte_any base b (cellsB l) c w h.2 (by rw [cellsB_len]; omega) hB).mono fun _ _ ⟨h1, h2, h3⟩ => ⟨h1, ⟨byE_app h.1 (byE_one hc), ?_⟩, h3⟩
 rw [cellsB_app]
 exact h2
theorem bld_b92 (base b : Nat) (l : List Nat) (w : World) (h : BldN w base b l) (hlen : l.length ≤ 1000000) (hB : base ≤ w.heap.size) :
 Calls Tryz.prog 156 #[.pointer (some ⟨b, 0, none⟩), .int .u8 92] w fun e w' => e = .returned .nilIface ∧ BldN w' base b (l ++ [92]) ∧ Below base w w' :=
 bld_byte base b l 92 w h (by decide) hlen hB
theorem bld_str (base b : Nat) (l : List Nat) (s : ByteArray) (w : World) (h : BldN w base b l) (hlen : l.length + s.size ≤ 1000000) (hB : base ≤ w.heap.size) :
 Calls Tryz.prog 59 #[.pointer (some ⟨b, 0, none⟩), .string s] w fun e w' => e = .returned (.tuple #[.int .i64 s.size, .nilIface]) ∧ BldN w' base b (l ++ bs s) ∧ Below base w w' := by
 refine (wstr_any base b (cellsB l) s w h.2 (by rw [cellsB_len]; omega) hB).mono fun _ _ ⟨h1, h2, h3⟩ => ⟨h1, ⟨byE_app h.1 (bs_byte s), ?_⟩, h3⟩
 rw [cellsB_app, ← strCells_bs]
 exact h2
theorem bld_read (base b : Nat) (l : List Nat) (w : World) (h : BldN w base b l) (hB : base ≤ w.heap.size) :
 Calls Tryz.prog 28 #[.pointer (some ⟨b, 0, none⟩)] w fun e w' => e = .returned (.string (strB l)) ∧ Below base w w' :=
 (Tryz.Builder_String_any_f base b (strB l).data.toList w (by rw [byteCells_nat h.1]; exact h.2) hB).mono fun _ _ ⟨h1, _, h3⟩ => ⟨h1, h3⟩
theorem bld_grow (n : Nat) (w : World) (hn : n ≤ 1000000) :
 Calls Tryz.prog 155 #[.pointer (some ⟨w.heap.size, 0, none⟩), .int .i64 (n : Int)] (w.alloc (.cells #[.pointer none, .slice none 0 0] 74)) fun e w' => e = .returned (.tuple #[]) ∧ BldN w' w.heap.size w.heap.size [] ∧ Below w.heap.size w w' := by
 have hal : Below w.heap.size w (w.alloc (.cells #[.pointer none, .slice none 0 0] 74)) := (Below.refl _ _).alloc (Nat.le_refl _) _
 refine (Tryz.Builder_Grow_fresh w.heap.size w.heap.size n _ (Nat.le_refl _) (heap_alloc_new w _) hal.size (by omega)).mono fun _ _ ⟨h1, h2, h3⟩ => ⟨h1, ⟨fun _ hc => absurd hc List.not_mem_nil, Lib.IsBuilderF.of (.inr h2)⟩, hal.trans h3⟩
theorem ixb_bs (s : ByteArray) (c : Nat) (hc : c < 256) : decide (0 ≤ Lib.indexByte s.data.toList c.toUInt8) = decide (c ∈ bs s) := by
 rw [← Lib.contains_iff_indexByte]
 refine Bool.eq_iff_iff.2 ?_
 rw [decide_eq_true_iff, List.contains_iff_mem]
 unfold bs
 rw [List.mem_map]
 constructor
 · exact fun h => ⟨_, h, by rw [Nat.toUInt8, UInt8.toNat_ofNat', Nat.mod_eq_of_lt hc]⟩
 · rintro ⟨x, hx, rfl⟩
   have e : x.toNat.toUInt8 = x := by simp
   rw [e]
   exact hx
set_option maxHeartbeats 800000 in
theorem pamong_any (t : ByteArray) (c : Nat) (hc : c < 256) (w : World) :
 Calls Tryz.prog 108 #[.string t, .int .u8 (c : Int)] w fun e w' => e = .returned (.bool (decide (c ∈ bs t))) ∧ w' = w := by
 have C := Tryz.strings_IndexByte t (c : Int) w
 have hx := ixb_bs t c hc
 have hq : ((c : Int)).toNat = c := by omega
 rw [hq] at C
 obtain ⟨z, hz⟩ : ∃ z, Lib.indexByte t.data.toList c.toUInt8 = z := ⟨_, rfl⟩
 rw [hz] at C hx
 rw [← hx]
 replace C := Hd C
 clear hz hx
 go_enter Tryz.func108, Tryz.ntmps108
 go_wp2_with fail
 refine C.out.mono ?_
 rintro _ w2 ⟨rfl, h2⟩
 subst w2
 dsimp only []
 go_wp2_with fail
 go_ret
 exact ⟨rfl, rfl⟩
def dgV : Option Nat → Value
 | some n => .tuple #[.int .u8 (n : Int), .bool true]
 | none => .tuple #[.int .u8 0, .bool false]
set_option maxHeartbeats 1600000 in
theorem pdigit_any (c : Nat) (hc : c < 256) (w : World) :
 Calls Tryz.prog 262 #[.int .u8 (c : Int)] w fun e w' => e = .returned (dgV (dgE c)) ∧ w' = w := by
 by_cases h1 : 48 ≤ c ∧ c ≤ 57
 · have hd : dgE c = some (c - 48) := by unfold dgE; rw [if_pos h1]
   rw [hd]
   have a1 : (48 : Int) ≤ (c : Int) := by omega
   have a2 : (c : Int) ≤ 57 := by omega
   have b1 : decide ((48 : Int) ≤ (c : Int)) = true := decide_eq_true a1
   have b2 : decide ((c : Int) ≤ 57) = true := decide_eq_true a2
   replace hd := Hd hd
   go_enter Tryz.func262, Tryz.ntmps262
   go_wp2_with fail
   go_ret2
   exact ⟨by unfold dgV; go_num, rfl⟩
 by_cases h2 : 97 ≤ c ∧ c ≤ 102
 · have hd : dgE c = some (c - 87) := by unfold dgE; rw [if_neg h1, if_pos h2]
   rw [hd]
   have a1 : (48 : Int) ≤ (c : Int) := by omega
   have a2 : ¬ (c : Int) ≤ 57 := by omega
   have a3 : (97 : Int) ≤ (c : Int) := by omega
   have a4 : (c : Int) ≤ 102 := by omega
   have b1 : decide ((48 : Int) ≤ (c : Int)) = true := decide_eq_true a1
   have b2 : decide ((c : Int) ≤ 57) = false := decide_eq_false a2
   have b3 : decide ((97 : Int) ≤ (c : Int)) = true := decide_eq_true a3
   have b4 : decide ((c : Int) ≤ 102) = true := decide_eq_true a4
   replace hd := Hd hd
   go_enter Tryz.func262, Tryz.ntmps262
   go_wp2_with fail
   go_ret2
   exact ⟨by unfold dgV; go_num, rfl⟩
 by_cases h3 : 65 ≤ c ∧ c ≤ 70
 · have hd : dgE c = some (c - 55) := by unfold dgE; rw [if_neg h1, if_neg h2, if_pos h3]
   rw [hd]
   have a1 : (48 : Int) ≤ (c : Int) := by omega
   have a2 : ¬ (c : Int) ≤ 57 := by omega
   have a3 : ¬ (97 : Int) ≤ (c : Int) := by omega
   have a5 : (65 : Int) ≤ (c : Int) := by omega
   have a6 : (c : Int) ≤ 70 := by omega
   have b1 : decide ((48 : Int) ≤ (c : Int)) = true := decide_eq_true a1
   have b2 : decide ((c : Int) ≤ 57) = false := decide_eq_false a2
   have b3 : decide ((97 : Int) ≤ (c : Int)) = false := decide_eq_false a3
   have b5 : decide ((65 : Int) ≤ (c : Int)) = true := decide_eq_true a5
   have b6 : decide ((c : Int) ≤ 70) = true := decide_eq_true a6
   replace hd := Hd hd
   go_enter Tryz.func262, Tryz.ntmps262
   go_wp2_with fail
   go_ret2
   exact ⟨by unfold dgV; go_num, rfl⟩
 have hd : dgE c = none := by unfold dgE; rw [if_neg h1, if_neg h2, if_neg h3]
 rw [hd]
 replace hd := Hd hd
 by_cases h4 : c < 48
 · have a1 : ¬ (48 : Int) ≤ (c : Int) := by omega
   have a3 : ¬ (97 : Int) ≤ (c : Int) := by omega
   have a5 : ¬ (65 : Int) ≤ (c : Int) := by omega
   have b1 : decide ((48 : Int) ≤ (c : Int)) = false := decide_eq_false a1
   have b3 : decide ((97 : Int) ≤ (c : Int)) = false := decide_eq_false a3
   have b5 : decide ((65 : Int) ≤ (c : Int)) = false := decide_eq_false a5
   go_enter Tryz.func262, Tryz.ntmps262
   go_wp2_with fail
   go_ret2
   exact ⟨rfl, rfl⟩
 have a1 : (48 : Int) ≤ (c : Int) := by omega
 have a2 : ¬ (c : Int) ≤ 57 := by omega
 have b1 : decide ((48 : Int) ≤ (c : Int)) = true := decide_eq_true a1
 have b2 : decide ((c : Int) ≤ 57) = false := decide_eq_false a2
 by_cases h5 : c < 65
 · have a3 : ¬ (97 : Int) ≤ (c : Int) := by omega
   have a5 : ¬ (65 : Int) ≤ (c : Int) := by omega
   have b3 : decide ((97 : Int) ≤ (c : Int)) = false := decide_eq_false a3
   have b5 : decide ((65 : Int) ≤ (c : Int)) = false := decide_eq_false a5
   go_enter Tryz.func262, Tryz.ntmps262
   go_wp2_with fail
   go_ret2
   exact ⟨rfl, rfl⟩
 have a5 : (65 : Int) ≤ (c : Int) := by omega
 have a6 : ¬ (c : Int) ≤ 70 := by omega
 have b5 : decide ((65 : Int) ≤ (c : Int)) = true := decide_eq_true a5
 have b6 : decide ((c : Int) ≤ 70) = false := decide_eq_false a6
 by_cases h6 : c < 97
 · have a3 : ¬ (97 : Int) ≤ (c : Int) := by omega
   have b3 : decide ((97 : Int) ≤ (c : Int)) = false := decide_eq_false a3
   go_enter Tryz.func262, Tryz.ntmps262
   go_wp2_with fail
   go_ret2
   exact ⟨rfl, rfl⟩
 have a3 : (97 : Int) ≤ (c : Int) := by omega
 have a4 : ¬ (c : Int) ≤ 102 := by omega
 have b3 : decide ((97 : Int) ≤ (c : Int)) = true := decide_eq_true a3
 have b4 : decide ((c : Int) ≤ 102) = false := decide_eq_false a4
 go_enter Tryz.func262, Tryz.ntmps262
 go_wp2_with fail
 go_ret2
 exact ⟨rfl, rfl⟩
theorem bs_cons (s : ByteArray) (h : 0 < s.size) : ∃ r, bs s = s[0].toNat :: r := by
 have hl : (bs s).length = s.size := bs_len s
 have hg := bs_get s 0 h
 rcases e : bs s with _ | ⟨c', r⟩
 · rw [e] at hl
   simp at hl
   omega
 · simp only [e] at hg
   rw [← hg]
   exact ⟨r, rfl⟩
theorem bs_zero (s : ByteArray) (h : s.size = 0) : bs s = [] := List.eq_nil_of_length_eq_zero (by rw [bs_len, h])
def uCountI (l : List Nat) : Int := match uChars l with
 | none => -1
 | some cs => (cs.length : Int)
def lenS : Value → Nat
 | .string x => x.size
 | _ => 0
theorem bs_rest (x x' : ByteArray) (n : Nat) (h : x.extract n x.size = x') : bs x' = (bs x).drop n := by
 rw [← h, bs_extract, ← bs_len x, List.take_length]
theorem bs_ne (x : ByteArray) (h : 0 < x.size) : bs x ≠ [] := by
 intro e
 have := bs_len x
 rw [e] at this
 simp at this
 omega
def rightB (s : ByteArray) : Bool := (uChars (bs s)).isSome
theorem right_count (s : ByteArray) : (rightB s = true ∧ 0 ≤ uCountI (bs s)) ∨ (rightB s = false ∧ uCountI (bs s) = -1) := by
 unfold rightB uCountI
 rcases uChars (bs s) with _ | cs
 · exact .inr ⟨rfl, rfl⟩
 · exact .inl ⟨rfl, Int.natCast_nonneg _⟩
theorem uFin_pos {v least n : Nat} (h : least ≤ v) (h1 : v ≤ 1114111) (h2 : ¬ (55296 ≤ v ∧ v ≤ 57343)) : uFin v least n = (v, n) := by
 unfold uFin
 rw [if_neg]
 unfold uOk
 omega
theorem uFin_neg {v least n : Nat} (h : v < least ∨ 1114111 < v ∨ (55296 ≤ v ∧ v ≤ 57343)) : uFin v least n = (0, 0) := by
 unfold uFin
 rw [if_pos]
 unfold uOk
 omega
theorem uCont_div (d : Nat) (h : d < 256) : uCont d ↔ d / 64 = 2 := by
 unfold uCont
 omega
theorem dec_two (n b0 b1 b2 b3 : Nat) (r : List Nat) (h0 : 194 ≤ b0 ∧ b0 < 224) (hb1 : b1 < 256) (hn : 1 < n) :
 Lib.decodeN n b0 b1 b2 b3 = if (uTwo b0 (b1 :: r)).2 = 0 then (65533, 1) else uTwo b0 (b1 :: r) := by
 unfold Lib.decodeN
 rw [uTwo_cons, if_neg (by omega)]
 by_cases hc : uCont b1
 · rw [if_pos hc]
   have hd := (uCont_div b1 hb1).1 hc
   rw [if_pos ⟨by omega, hn, hd⟩]
   unfold uCont at hc
   have e : (b0 - 192) * 64 + (b1 - 128) = b0 % 32 * 64 + b1 % 64 := by omega
   rw [e, if_pos (show b0 % 32 * 64 + b1 % 64 ≥ 128 by omega), uFin_pos (by omega) (by omega) (by omega), if_neg (by simp)]
 · rw [if_neg hc]
   have hd : ¬ b1 / 64 = 2 := fun h => hc ((uCont_div b1 hb1).2 h)
   rw [if_neg (by omega), if_neg (by omega), if_neg (by omega), if_pos rfl]
theorem dec_three (n b0 b1 b2 b3 : Nat) (r : List Nat) (h0 : 224 ≤ b0 ∧ b0 < 240) (hb1 : b1 < 256) (hb2 : b2 < 256) (hn : 2 < n) :
 Lib.decodeN n b0 b1 b2 b3 = if (uThree b0 (b1 :: b2 :: r)).2 = 0 then (65533, 1) else uThree b0 (b1 :: b2 :: r) := by
 unfold Lib.decodeN
 rw [uThree_cons, if_neg (by omega), if_neg (by omega)]
 by_cases hc : uCont b1 ∧ uCont b2
 · rw [if_pos hc]
   have hd := (uCont_div b1 hb1).1 hc.1
   have hd2 := (uCont_div b2 hb2).1 hc.2
   rw [if_pos ⟨by omega, ⟨by omega, hd⟩, hn, hd2⟩]
   unfold uCont at hc
   have e : ((b0 - 224) * 64 + (b1 - 128)) * 64 + (b2 - 128) = b0 % 16 * 4096 + b1 % 64 * 64 + b2 % 64 := by omega
   rw [e]
   by_cases hv : b0 % 16 * 4096 + b1 % 64 * 64 + b2 % 64 ≥ 2048 ∧ (b0 % 16 * 4096 + b1 % 64 * 64 + b2 % 64 < 55296 ∨ (57344 ≤ b0 % 16 * 4096 + b1 % 64 * 64 + b2 % 64 ∧ b0 % 16 * 4096 + b1 % 64 * 64 + b2 % 64 ≤ 1114111))
   · rw [if_pos hv, uFin_pos (by omega) (by omega) (by omega), if_neg (by simp)]
   · rw [if_neg hv, uFin_neg (by omega), if_pos rfl]
 · rw [if_neg hc]
   have hd : ¬ (b1 / 64 = 2 ∧ b2 / 64 = 2) := fun h => hc ⟨(uCont_div b1 hb1).2 h.1, (uCont_div b2 hb2).2 h.2⟩
   rw [if_neg (by omega), if_neg (by omega), if_pos rfl]
theorem dec_four (n b0 b1 b2 b3 : Nat) (r : List Nat) (h0 : 240 ≤ b0 ∧ b0 < 245) (hb1 : b1 < 256) (hb2 : b2 < 256) (hb3 : b3 < 256) (hn : 3 < n) :
 Lib.decodeN n b0 b1 b2 b3 = if (uFour b0 (b1 :: b2 :: b3 :: r)).2 = 0 then (65533, 1) else uFour b0 (b1 :: b2 :: b3 :: r) := by
 unfold Lib.decodeN
 rw [uFour_cons, if_neg (by omega), if_neg (by omega), if_neg (by omega)]
 by_cases hc : uCont b1 ∧ uCont b2 ∧ uCont b3
 · rw [if_pos hc]
   have hd := (uCont_div b1 hb1).1 hc.1
   have hd2 := (uCont_div b2 hb2).1 hc.2.1
   have hd3 := (uCont_div b3 hb3).1 hc.2.2
   rw [if_pos ⟨by omega, ⟨by omega, hd⟩, ⟨by omega, hd2⟩, hn, hd3⟩]
   unfold uCont at hc
   have e : (((b0 - 240) * 64 + (b1 - 128)) * 64 + (b2 - 128)) * 64 + (b3 - 128) = b0 % 8 * 262144 + b1 % 64 * 4096 + b2 % 64 * 64 + b3 % 64 := by omega
   rw [e]
   by_cases hv : b0 % 8 * 262144 + b1 % 64 * 4096 + b2 % 64 * 64 + b3 % 64 ≥ 65536 ∧ (b0 % 8 * 262144 + b1 % 64 * 4096 + b2 % 64 * 64 + b3 % 64 < 55296 ∨ (57344 ≤ b0 % 8 * 262144 + b1 % 64 * 4096 + b2 % 64 * 64 + b3 % 64 ∧ b0 % 8 * 262144 + b1 % 64 * 4096 + b2 % 64 * 64 + b3 % 64 ≤ 1114111))
   · rw [if_pos hv, uFin_pos (by omega) (by omega) (by omega), if_neg (by simp)]
   · rw [if_neg hv, uFin_neg (by omega), if_pos rfl]
 · rw [if_neg hc]
   have hd : ¬ (b1 / 64 = 2 ∧ b2 / 64 = 2 ∧ b3 / 64 = 2) := fun h => hc ⟨(uCont_div b1 hb1).2 h.1, (uCont_div b2 hb2).2 h.2.1, (uCont_div b3 hb3).2 h.2.2⟩
   rw [if_neg (by omega), if_pos rfl]
theorem dec_bad (n b0 b1 b2 b3 : Nat) (h0 : 128 ≤ b0) (h : (b0 < 194) ∨ 245 ≤ b0) (hb0 : b0 < 256) : Lib.decodeN n b0 b1 b2 b3 = (65533, 1) := by
 unfold Lib.decodeN
 rw [if_neg (by omega)]
 rcases h with h | h
 · by_cases h1 : b0 / 32 = 6 ∧ (1 < n ∧ b1 / 64 = 2)
   · rw [if_pos h1, if_neg (by omega)]
   · rw [if_neg h1, if_neg (by omega), if_neg (by omega)]
 · rw [if_neg (by omega), if_neg (by omega)]
   by_cases h1 : b0 / 8 = 30 ∧ (1 < n ∧ b1 / 64 = 2) ∧ (2 < n ∧ b2 / 64 = 2) ∧ (3 < n ∧ b3 / 64 = 2)
   · rw [if_pos h1, if_neg (by omega)]
   · rw [if_neg h1]
theorem dec_short (n b0 b1 b2 b3 : Nat) (h0 : 194 ≤ b0) (h : (n ≤ 1) ∨ (224 ≤ b0 ∧ n ≤ 2) ∨ (240 ≤ b0 ∧ n ≤ 3)) : Lib.decodeN n b0 b1 b2 b3 = (65533, 1) := by
 unfold Lib.decodeN
 rw [if_neg (by omega), if_neg (by omega), if_neg (by omega), if_neg (by omega)]
theorem decodeN_u (l : List Nat) (hb : ∀ x ∈ l, x < 256) (h0 : l ≠ []) :
 Lib.decodeN l.length (l.getD 0 0) (l.getD 1 0) (l.getD 2 0) (l.getD 3 0) = if (uNext l).2 = 0 then (65533, 1) else uNext l := by
 rcases l with _ | ⟨a, r⟩
 · exact absurd rfl h0
 · have ha := hb a (List.mem_cons_self ..)
   have hr : ∀ k, r.getD k 0 < 256 := fun k => by
    rcases Nat.lt_or_ge k r.length with h | h
    · rw [List.getD_eq_getElem?_getD, List.getElem?_eq_getElem h]
      exact hb _ (List.mem_cons_of_mem _ (List.getElem_mem h))
    · rw [List.getD_eq_getElem?_getD, List.getElem?_eq_none h]
      show 0 < 256
      omega
   have g0 : (a :: r).getD 0 0 = a := rfl
   have g1 : ∀ k, (a :: r).getD (k + 1) 0 = r.getD k 0 := fun k => rfl
   rw [g0, g1 0, g1 1, g1 2, uNext_cons]
   by_cases h1 : a < 128
   · rw [if_pos h1, if_neg (by simp)]
     unfold Lib.decodeN
     rw [if_pos h1]
   · rw [if_neg h1]
     by_cases h2 : 194 ≤ a ∧ a < 224
     · rw [if_pos h2]
       rcases r with _ | ⟨b, r⟩
       · exact dec_short _ _ _ _ _ h2.1 (.inl (Nat.le_refl _))
       · exact dec_two _ _ _ _ _ r h2 (hr 0) (by simp)
     · rw [if_neg h2]
       by_cases h3 : 224 ≤ a ∧ a < 240
       · rw [if_pos h3]
         rcases r with _ | ⟨b, _ | ⟨c, r⟩⟩
         · exact dec_short _ _ _ _ _ (by omega) (.inl (Nat.le_refl _))
         · exact dec_short _ _ _ _ _ (by omega) (.inr (.inl ⟨h3.1, Nat.le_refl _⟩))
         · exact dec_three _ _ _ _ _ r h3 (hr 0) (hr 1) (by simp)
       · rw [if_neg h3]
         by_cases h4 : 240 ≤ a ∧ a < 245
         · rw [if_pos h4]
           rcases r with _ | ⟨b, _ | ⟨c, _ | ⟨d, r⟩⟩⟩
           · exact dec_short _ _ _ _ _ (by omega) (.inl (Nat.le_refl _))
           · exact dec_short _ _ _ _ _ (by omega) (.inr (.inl ⟨by omega, Nat.le_refl _⟩))
           · exact dec_short _ _ _ _ _ (by omega) (.inr (.inr ⟨by omega, Nat.le_refl _⟩))
           · exact dec_four _ _ _ _ _ r h4 (hr 0) (hr 1) (hr 2) (by simp)
         · rw [if_neg h4, if_pos rfl]
           exact dec_bad _ _ _ _ _ (by omega) (by omega) ha
theorem getD_nats (l : List UInt8) (k : Nat) : (l.getD k 0).toNat = (l.map UInt8.toNat).getD k 0 := by
 rw [List.getD_eq_getElem?_getD, List.getD_eq_getElem?_getD, List.getElem?_map]
 rcases l[k]? with _ | x
 · rfl
 · rfl
theorem decodeL_u (l : List UInt8) (h0 : l ≠ []) : Lib.decodeL l = if (uNext (l.map UInt8.toNat)).2 = 0 then (65533, 1) else uNext (l.map UInt8.toNat) := by
 rw [Lib.decodeL_N, getD_nats, getD_nats, getD_nats, getD_nats, ← decodeN_u _ (fun x hx => by obtain ⟨c, _, rfl⟩ := List.mem_map.1 hx; exact c.toNat_lt) (by simpa using h0), List.length_map]
theorem decode_u (s : ByteArray) (pos : Nat) (h : pos < s.size) : Utf8.decode s pos = if (uNext ((bs s).drop pos)).2 = 0 then (65533, 1) else uNext ((bs s).drop pos) := by
 have hn : s.data.toList.drop pos ≠ [] := by
  intro e
  have := congrArg List.length e
  rw [List.length_drop, List.length_nil] at this
  have : s.data.toList.length = s.size := by simp
  omega
 rw [← Lib.decodeL_drop, decodeL_u _ hn, List.map_drop]
 rfl
def Tabs (w : World) : Prop := Lib.Utf8Tabs 2 3 w
theorem Tabs.below {w w' : World} (h : Tabs w) (hb : Below w.heap.size w w') : Tabs w' := Utf8Tabs_below h hb
theorem go_u (s : ByteArray) (h : 0 < s.size) : Lib.decodeGo s = if (uNext (bs s)).2 = 0 then (65533, 1) else uNext (bs s) := by
 unfold Lib.decodeGo
 rw [if_neg (by omega), decode_u s 0 h, List.drop_zero]
set_option maxRecDepth 8000 in
set_option maxHeartbeats 800000 in
theorem next_any (s : ByteArray) (w : World) (hT : Tabs w) :
 Calls Tryz.prog 215 #[.string s] w fun e w' => e = .returned (.tuple #[.int .i32 ((uNext (bs s)).1 : Int), .int .i64 ((uNext (bs s)).2 : Int)]) ∧ Below w.heap.size w w' := by
 have C := Tryz.utf8_DecodeRuneInString s w hT
 replace hT := Hd hT
 by_cases h0 : s.size = 0
 · have e1 : Lib.decodeGo s = (65533, 0) := by unfold Lib.decodeGo; rw [if_pos h0]
   rw [e1] at C
   rw [bs_zero s h0]
   replace C : Hid (Calls Tryz.prog 232 #[.string s] w fun e w' => e = .returned (.tuple #[.int .i32 65533, .int .i64 0]) ∧ Below w.heap.size w w') := Hd C
   replace e1 := Hd e1
   replace h0 := Hd h0
   go_enter Tryz.func215, Tryz.ntmps215
   go_wp2_with fail
   refine C.out.mono ?_
   rintro _ w2 ⟨rfl, h2⟩
   dsimp only []
   go_wp2_with fail
   go_returns
   exact ⟨rfl, h2⟩
 · have e1 := go_u s (by omega)
   by_cases h1 : (uNext (bs s)).2 = 0
   · have e2 := uNext_zero _ h1
     rw [if_pos h1] at e1
     rw [e1] at C
     rw [e2]
     replace C : Hid (Calls Tryz.prog 232 #[.string s] w fun e w' => e = .returned (.tuple #[.int .i32 65533, .int .i64 1]) ∧ Below w.heap.size w w') := Hd C
     replace e1 := Hd e1
     replace e2 := Hd e2
     replace h1 := Hd h1
     replace h0 := Hd h0
     go_enter Tryz.func215, Tryz.ntmps215
     go_wp2_with fail
     refine C.out.mono ?_
     rintro _ w2 ⟨rfl, h2⟩
     dsimp only []
     go_wp2_with fail
     go_returns
     exact ⟨rfl, h2⟩
   · rw [if_neg h1] at e1
     rw [e1] at C
     obtain ⟨u1, u2, u3⟩ := uNext_ok (bs s) h1
     obtain ⟨c, hc⟩ : ∃ c, (uNext (bs s)).1 = c := ⟨_, rfl⟩
     obtain ⟨n, hn⟩ : ∃ n, (uNext (bs s)).2 = n := ⟨_, rfl⟩
     rw [hc, hn] at C
     rw [hc, hn]
     rw [hc, hn] at u3
     clear u1 u2
     by_cases h2 : c = 65533
     · subst h2
       have h3 : n = 3 := u3.trans (by decide)
       subst h3
       replace C : Hid (Calls Tryz.prog 232 #[.string s] w fun e w' => e = .returned (.tuple #[.int .i32 65533, .int .i64 3]) ∧ Below w.heap.size w w') := Hd C
       replace e1 := Hd e1
       replace u3 := Hd u3
       replace hc := Hd hc
       replace hn := Hd hn
       replace h1 := Hd h1
       replace h0 := Hd h0
       go_enter Tryz.func215, Tryz.ntmps215
       go_wp2_with fail
       refine C.out.mono ?_
       rintro _ w2 ⟨rfl, h2⟩
       dsimp only []
       go_wp2_with fail
       go_returns
       exact ⟨rfl, h2⟩
     · have k0 : ((c : Int) == 65533) = false := beq_eq_false_iff_ne.2 (by omega)
       replace C := Hd C
       replace e1 := Hd e1
       replace u3 := Hd u3
       replace hc := Hd hc
       replace hn := Hd hn
       replace h1 := Hd h1
       replace h0 := Hd h0
       replace h2 := Hd h2
       go_enter Tryz.func215, Tryz.ntmps215
       go_wp2_with fail
       refine C.out.mono ?_
       rintro _ w2 ⟨rfl, h2⟩
       dsimp only []
       go_wp2_with fail
       go_returns
       exact ⟨rfl, h2⟩
set_option maxRecDepth 4000 in
set_option maxHeartbeats 800000 in
theorem count_any (s : ByteArray) (w : World) (hs : s.size ≤ 140737488355328) (hT : Tabs w) :
 Calls Tryz.prog 188 #[.string s] w fun e w' => e = .returned (.int .i64 (uCountI (bs s))) ∧ Below w.heap.size w w' := by
 have hnext : Hid (∀ (x : ByteArray) w', Below w.heap.size w w' → Calls Tryz.prog 215 #[.string x] w' fun e w'' => e = .returned (.tuple #[.int .i32 ((uNext (bs x)).1 : Int), .int .i64 ((uNext (bs x)).2 : Int)]) ∧ Below w'.heap.size w' w'') := Hd fun x w' hb => next_any x w' (hT.below hb)
 replace hT := Hd hT
 go_enter Tryz.func188, Tryz.ntmps188
 go_wp2_with fail
 go_loopw [0, 3] (fun sv kv wr => ∃ (x : ByteArray) (P : List Nat) (k : Nat), sv = .string x ∧ kv = .int .i64 (k : Int) ∧ x.size + k ≤ s.size ∧ Hid (P.length = k) ∧ Hid (uChars (bs s) = (uChars (bs x)).map (P ++ ·)) ∧ Hid (Below w.heap.size w wr)) (fun sv _ _ => lenS sv)
 case atStart => exact ⟨s, [], 0, rfl, rfl, Nat.le_refl _, Hd rfl, Hd (by simp), Hd (Below.refl _ _)⟩
 case round =>
  obtain ⟨x, P, k, rfl, rfl, hk, HP, HC, HB⟩ := hrel
  by_cases h0 : 0 < x.size
  · have CN := hnext.out x wr HB.out
    have hle := uNext_le (bs x)
    rw [bs_len] at hle
    obtain ⟨c, hc⟩ : ∃ c, c = (uNext (bs x)).1 := ⟨_, rfl⟩
    obtain ⟨n, hn⟩ : ∃ n, n = (uNext (bs x)).2 := ⟨_, rfl⟩
    rw [← hc, ← hn] at CN
    rw [← hn] at hle
    obtain ⟨x', hx'⟩ : ∃ x', x.extract n x.size = x' := ⟨_, rfl⟩
    have HX := Hd (bs_rest x x' n hx')
    have hxs : x'.size = x.size - n := by rw [← bs_len x', HX.out, List.length_drop, bs_len]
    have hbad : Hid (n = 0 → uChars (bs x) = none) := Hd fun e => uChars_bad _ (bs_ne x h0) (by rw [← hn, e])
    have hstep : Hid (n ≠ 0 → uChars (bs s) = (uChars (bs x')).map ((P ++ [c]) ++ ·)) := Hd fun e => by
     rw [HC.out, uChars_step _ (bs_ne x h0) (by rw [← hn]; exact e), ← hn, ← hc, ← HX.out, Option.map_map]
     congr 1
     funext y
     simp
    have hne : x.toList.isEmpty = false := by
     rw [ByteArray.toList_eq]
     rcases e : x.data.toList with _ | ⟨a, r⟩
     · have : x.data.toList.length = x.size := by simp
       rw [e, List.length_nil] at this
       omega
     · rfl
    replace hc := Hd hc
    replace hn := Hd hn
    replace CN := Hd CN
    have i0 : (0 : Int) < (x.size : Int) := by omega
    have i1 : (n : Int) ≤ (x.size : Int) := by omega
    have i2 : (0 : Int) ≤ (n : Int) := by omega
    by_cases hn0 : n = 0
    · have j0 : ((n : Int) == 0) = true := beq_iff_eq.2 (by omega)
      have hfin : uCountI (bs s) = -1 := by
       unfold uCountI
       rw [HC.out, hbad.out hn0]
       rfl
      replace hfin := Hd hfin
      clear hx' hxs
      go_wp2_with fail
      refine CN.out.mono ?_
      rintro _ w2 ⟨rfl, h2⟩
      dsimp only []
      go_wp2_with fail
      go_ret
      exact ⟨by rw [hfin.out]; rfl, HB.out.trans (h2.mono HB.out.size)⟩
    · have j0 : ((n : Int) == 0) = false := beq_eq_false_iff_ne.2 (by omega)
      have hkk : x'.size + (k + 1) ≤ s.size := by omega
      have hlt : x'.size < x.size := by omega
      have hxs' := Hd hxs
      clear hxs
      go_wp2_with fail
      refine CN.out.mono ?_
      rintro _ w2 ⟨rfl, h2⟩
      dsimp only []
      go_wp2_with fail
      go_roundw
      case rel => exact ⟨x', P ++ [c], k + 1, rfl, by go_num, hkk, Hd (by rw [List.length_append, HP.out]; rfl), Hd (hstep.out hn0), Hd (HB.out.trans (h2.mono HB.out.size))⟩
      case measure => exact hlt
  · have hfin : uCountI (bs s) = (k : Int) := by
     unfold uCountI
     rw [HC.out, bs_zero x (by omega), uChars_nil]
     simp [HP.out]
    replace hfin := Hd hfin
    have i0 : ¬ ((0 : Int) < (x.size : Int)) := by omega
    have hne : x.toList.isEmpty = true := by
     have hl : x.data.toList.length = x.size := by simp
     rw [ByteArray.toList_eq, List.eq_nil_of_length_eq_zero (show x.data.toList.length = 0 by omega)]
     rfl
    go_wp2_with fail
    go_ret
    exact ⟨by rw [hfin.out]; rfl, HB.out⟩
theorem right_any (s : ByteArray) (w : World) (hs : s.size ≤ 140737488355328) (hT : Tabs w) :
 Calls Tryz.prog 152 #[.string s] w fun e w' => e = .returned (.bool (rightB s)) ∧ Below w.heap.size w w' := by
 have C := count_any s w hs hT
 replace hT := Hd hT
 obtain ⟨z, hz⟩ : ∃ z, uCountI (bs s) = z := ⟨_, rfl⟩
 have hr := right_count s
 rw [hz] at C hr
 replace C := Hd C
 replace hz := Hd hz
 rcases hr with ⟨h1, h2⟩ | ⟨h1, h2⟩
 · rw [h1]
   replace h1 := Hd h1
   go_enter Tryz.func152, Tryz.ntmps152
   go_wp2_with fail
   refine C.out.mono ?_
   rintro _ w2 ⟨rfl, h3⟩
   dsimp only []
   go_wp2_with fail
   go_ret
   exact ⟨by simp, h3⟩
 · rw [h1]
   subst h2
   replace h1 := Hd h1
   go_enter Tryz.func152, Tryz.ntmps152
   go_wp2_with fail
   refine C.out.mono ?_
   rintro _ w2 ⟨rfl, h3⟩
   dsimp only []
   go_wp2_with fail
   go_ret
   exact ⟨rfl, h3⟩
def HighF (w : World) (v : Value) (s : ByteArray) (r : Bool) : Prop := ∃ bw b2, v = .func (.func 153) #[] #[.pointer (some ⟨bw, 0, none⟩), .pointer (some ⟨b2, 0, none⟩)] ∧ w.heap[bw]? = some (.cells #[.bool (!r)] 4 (0, 0)) ∧ w.heap[b2]? = some (.cells #[.string s] 9 (0, 0))
theorem blk_below {w w' : World} {b : Nat} {o : Obj} (h : w.heap[b]? = some o) (hb : Below w.heap.size w w') : w'.heap[b]? = some o := by
 rw [hb.block b (Array.getElem?_eq_some_iff.1 h).1, h]
theorem HighF.below {w w' : World} {v : Value} {s : ByteArray} {r : Bool} (h : HighF w v s r) (hb : Below w.heap.size w w') : HighF w' v s r := by
 obtain ⟨bw, b2, h1, h2, h3⟩ := h
 exact ⟨bw, b2, h1, blk_below h2 hb, blk_below h3 hb⟩
set_option maxHeartbeats 1600000 in
theorem high_any (s : ByteArray) (r : Bool) (bw b2 k : Nat) (w : World) (hk : k < s.size) (h1 : w.heap[bw]? = some (.cells #[.bool (!r)] 4 (0, 0))) (h2 : w.heap[b2]? = some (.cells #[.string s] 9 (0, 0))) :
 Calls Tryz.prog 153 #[.int .i64 (k : Int), .pointer (some ⟨bw, 0, none⟩), .pointer (some ⟨b2, 0, none⟩)] w fun e w' => e = .returned (.bool (decide (127 < s[k].toNat ∧ r = false))) ∧ w' = w := by
 have c1 := cell_of_one h1
 have c2 := cell_of_one h2
 have i0 : (0 : Int) ≤ (k : Int) := by omega
 have i1 : (k : Int) < (s.size : Int) := by omega
 have b1 := byte_lt s k hk
 obtain ⟨a, ha⟩ : ∃ a, s[k].toNat = a := ⟨_, rfl⟩
 have hai : ((s[k].toNat : Nat) : Int) = (a : Int) := by rw [ha]
 rw [ha] at b1 ⊢
 replace ha := Hd ha
 cases r
 · rw [show (!false) = true from rfl] at c1
   have e : decide (127 < a ∧ false = false) = decide ((128 : Int) ≤ (a : Int)) := by
    refine Bool.eq_iff_iff.2 ?_
    simp only [decide_eq_true_iff, and_true]
    omega
   rw [e]
   clear e h1 h2
   go_enter Tryz.func153, Tryz.ntmps153
   go_wp2_with fail
   go_ret
   exact ⟨rfl, rfl⟩
 · rw [show (!true) = false from rfl] at c1
   have e : decide (127 < a ∧ true = false) = false := by simp
   rw [e]
   clear e h1 h2
   go_enter Tryz.func153, Tryz.ntmps153
   go_wp2_with fail
   go_ret
   exact ⟨rfl, rfl⟩
set_option maxHeartbeats 1600000 in
theorem codesHigh_any (s : ByteArray) (w : World) (hs : s.size ≤ 9500) (hT : Tabs w) :
 Calls Tryz.prog 105 #[.string s] w fun e w' => ∃ v, e = .returned v ∧ HighF w' v s (rightB s) ∧ Below w.heap.size w w' := by
 have hal : Below w.heap.size w (w.alloc (.cells #[.string s] 9)) := (Below.refl _ _).alloc (Nat.le_refl _) _
 have C := Hd (right_any s _ (by omega) (hT.below hal))
 have hal := Hd hal
 go_enter Tryz.func105, Tryz.ntmps105
 go_wp2_with fail
 refine C.out.mono ?_
 rintro _ w2 ⟨rfl, h2⟩
 replace h2 := Hd h2
 dsimp only []
 go_wp2_with fail
 go_ret
 have hlt : w.heap.size < (w.alloc (.cells #[.string s] 9)).heap.size := by simp
 have hlt2 := Nat.lt_of_lt_of_le hlt h2.out.size
 exact ⟨_, rfl, ⟨w2.heap.size, w.heap.size, rfl, heap_alloc_new w2 _, by rw [heap_alloc_old w2 _ hlt2, h2.out.block _ hlt, heap_alloc_new w]⟩, (hal.out.trans (h2.out.mono (by simp))).trans ((Below.refl _ _).alloc (by omega) _)⟩
theorem sgn_bs : ∀ c : Nat, (c ∈ bs ⟨#[42, 40, 41, 0]⟩) ↔ c = 42 ∨ c = 40 ∨ c = 41 ∨ c = 0 := fun c => by
 show c ∈ [42, 40, 41, 0] ↔ _
 simp
set_option maxHeartbeats 1600000 in
theorem codedF_any (s : ByteArray) (r : Bool) (b1 b2 k : Nat) (v : Value) (w : World) (hk : k < s.size) (h1 : w.heap[b1]? = some (.cells #[.string s] 9 (0, 0))) (h2 : w.heap[b2]? = some (.cells #[v] 186 (0, 0))) (hv : HighF w v s r) :
 Calls Tryz.prog 107 #[.int .i64 (k : Int), .pointer (some ⟨b1, 0, none⟩), .pointer (some ⟨b2, 0, none⟩)] w fun e w' => e = .returned (.bool (codF r (bs s) k)) ∧ w' = w := by
 obtain ⟨bw, b3, rfl, h3, h4⟩ := hv
 have c1 := cell_of_one h1
 have c2 := cell_of_one h2
 have CH := high_any s r bw b3 k w hk h3 h4
 have i0 : (0 : Int) ≤ (k : Int) := by omega
 have i1 : (k : Int) < (s.size : Int) := by omega
 have b1' := byte_lt s k hk
 have hcd : codF r (bs s) k = decide (s[k].toNat = 92 ∨ s[k].toNat = 42 ∨ s[k].toNat = 40 ∨ s[k].toNat = 41 ∨ s[k].toNat = 0 ∨ 127 < s[k].toNat ∧ r = false) := by unfold codF; rw [bs_atE s k hk]
 rw [hcd]
 obtain ⟨a, ha⟩ : ∃ a, s[k].toNat = a := ⟨_, rfl⟩
 have hai : ((s[k].toNat : Nat) : Int) = (a : Int) := by rw [ha]
 rw [ha] at b1' CH ⊢
 have CA := pamong_any ⟨#[42, 40, 41, 0]⟩ a b1' w
 have hsg := sgn_bs a
 replace ha := Hd ha
 clear h1 h2 h3 h4 hcd
 by_cases e92 : a = 92
 · have g1 : ((a : Int) == 92) = true := beq_iff_eq.2 (by omega)
   have g2 : (a : Int) = 92 := by omega
   rw [decide_eq_true (.inl e92)]
   clear CA CH hsg
   go_enter Tryz.func107, Tryz.ntmps107
   go_wp2_with fail
   go_ret
   exact ⟨rfl, rfl⟩
 · have g1 : ((a : Int) == 92) = false := beq_eq_false_iff_ne.2 (by omega)
   have g2 : ¬ (a : Int) = 92 := by omega
   by_cases hin : a = 42 ∨ a = 40 ∨ a = 41 ∨ a = 0
   · rw [decide_eq_true (hsg.2 hin)] at CA
     rw [decide_eq_true (show a = 92 ∨ a = 42 ∨ a = 40 ∨ a = 41 ∨ a = 0 ∨ 127 < a ∧ r = false by rcases hin with h | h | h | h <;> simp [h])]
     replace CA := Hd CA
     clear CH hsg hin
     go_enter Tryz.func107, Tryz.ntmps107
     go_wp2_with fail
     refine CA.out.mono ?_
     rintro _ w2 ⟨rfl, h2⟩
     subst w2
     dsimp only []
     go_wp2_with fail
     go_ret
     exact ⟨rfl, rfl⟩
   · rw [decide_eq_false (fun h => hin (hsg.1 h))] at CA
     have hd : decide (a = 92 ∨ a = 42 ∨ a = 40 ∨ a = 41 ∨ a = 0 ∨ 127 < a ∧ r = false) = decide (127 < a ∧ r = false) := by
      refine Bool.eq_iff_iff.2 ?_
      simp only [decide_eq_true_iff]
      exact ⟨fun h => by
       rcases h with h | h | h | h | h | h
       · exact absurd h e92
       · exact absurd (.inl h) hin
       · exact absurd (.inr (.inl h)) hin
       · exact absurd (.inr (.inr (.inl h))) hin
       · exact absurd (.inr (.inr (.inr h))) hin
       · exact h, fun h => .inr (.inr (.inr (.inr (.inr h))))⟩
     rw [hd]
     obtain ⟨d, hdd⟩ : ∃ d, decide (127 < a ∧ r = false) = d := ⟨_, rfl⟩
     rw [hdd] at CH ⊢
     replace CA := Hd CA
     replace CH := Hd CH
     clear hsg hin hd hdd
     go_enter Tryz.func107, Tryz.ntmps107
     go_wp2_with fail
     refine CA.out.mono ?_
     rintro _ w2 ⟨rfl, h2⟩
     subst w2
     dsimp only []
     go_wp2_with fail
     refine CH.out.mono ?_
     rintro _ w2 ⟨rfl, h2⟩
     subst w2
     dsimp only []
     go_wp2_with fail
     go_ret
     exact ⟨rfl, rfl⟩
theorem digit_at : ∀ a : Nat, (h : a < 16) → (⟨#[48, 49, 50, 51, 52, 53, 54, 55, 56, 57, 97, 98, 99, 100, 101, 102]⟩ : ByteArray)[a].toNat = hxE a := by decide +kernel
theorem low_four : ∀ c < 256, bits BinOp.and IntKind.u8 ((c : Nat) : Int) 15 = ((c % 16 : Nat) : Int) := by decide +kernel
set_option maxHeartbeats 1600000 in
theorem puthex_any (base b : Nat) (l : List Nat) (c : Nat) (w : World) (h : BldN w base b l) (hc : c < 256) (hlen : l.length ≤ 999000) (hB : base ≤ w.heap.size) :
 Calls Tryz.prog 157 #[.pointer (some ⟨b, 0, none⟩), .int .u8 (c : Int)] w fun e w' => e = .returned (.tuple #[]) ∧ BldN w' base b (l ++ twoE c) ∧ Below base w w' := by
 obtain ⟨p, hp⟩ : ∃ p, c / 16 = p := ⟨_, rfl⟩
 obtain ⟨q, hq⟩ : ∃ q, c % 16 = q := ⟨_, rfl⟩
 have p16 : p < 16 := by omega
 have q16 : q < 16 := by omega
 have e1 : (c : Int) / 16 = (p : Int) := by omega
 have e2 : (c : Int) % 16 = (q : Int) := by omega
 have ht : twoE c = [hxE p] ++ [hxE q] := by unfold twoE; rw [hp, hq]; rfl
 have e3 := low_four c hc
 rw [hq] at e3
 have C1 := (bld_byte base b l (hxE p) w h (by have := hx_form p p16; omega) (by omega) hB)
 have C2 := Hd fun w1 (h1 : BldN w1 base b (l ++ [hxE p])) (hB1 : base ≤ w1.heap.size) => (bld_byte base b (l ++ [hxE p]) (hxE q) w1 h1 (by have := hx_form q q16; omega) (by simp; omega) hB1)
 rw [← digit_at p p16] at C1
 simp only [← digit_at q q16] at C2
 replace C1 := Hd C1
 replace hp := Hd hp
 replace hq := Hd hq
 replace ht := Hd ht
 replace h := Hd h
 go_enter Tryz.func157, Tryz.ntmps157
 go_wp2_with fail
 refine C1.out.mono ?_
 rintro _ w1 ⟨rfl, h1, hb1⟩
 rw [digit_at p p16] at h1
 have C3 := Hd (C2.out w1 h1 (Nat.le_trans hB hb1.size))
 replace h1 := Hd h1
 replace hb1 := Hd hb1
 dsimp only []
 go_wp2_with fail
 refine C3.out.mono ?_
 rintro _ w2 ⟨rfl, h2, hb2⟩
 rw [digit_at q q16, List.append_assoc, ← ht.out] at h2
 replace h2 := Hd h2
 replace hb2 := Hd (hb1.out.trans hb2)
 dsimp only []
 go_wp2_with fail
 go_end0
 exact ⟨rfl, h2.out, hb2.out⟩
set_option maxRecDepth 4000 in
set_option maxHeartbeats 3200000 in
theorem escapeFilter_any (s : ByteArray) (b1 b2 : Nat) (mk cd : Nat → Bool) (w : World) (hs : s.size ≤ 9500)
 (CM : ∀ k, k < s.size → ∀ W, Below w.heap.size w W → Calls Tryz.prog 106 #[.int .i64 (k : Int)] W fun e w' => e = .returned (.bool (mk k)) ∧ w' = W)
 (CC : ∀ k, k < s.size → ∀ W, Below w.heap.size w W → Calls Tryz.prog 107 #[.int .i64 (k : Int), .pointer (some ⟨b1, 0, none⟩), .pointer (some ⟨b2, 0, none⟩)] W fun e w' => e = .returned (.bool (cd k)) ∧ w' = W) :
 Calls Tryz.prog 109 #[.string s, .func (.func 106) #[] #[], .func (.func 107) #[] #[.pointer (some ⟨b1, 0, none⟩), .pointer (some ⟨b2, 0, none⟩)]] w fun e w' => e = .returned (.string (strB (escF mk cd (bs s) s.size))) ∧ Below w.heap.size w w' := by
 have G := Hd (bld_grow s.size w (by omega))
 replace CM := Hd CM
 replace CC := Hd CC
 go_enter Tryz.func109, Tryz.ntmps109
 go_wp2_with fail
 refine G.out.mono ?_
 rintro _ w1 ⟨rfl, h1, hb1⟩
 replace h1 := Hd h1
 replace hb1 := Hd hb1
 dsimp only []
 go_wp2_with fail
 go_loopw [14] (fun iv wr => ∃ (k : Nat), k ≤ s.size ∧ iv = .int .i64 (k : Int) ∧ Hid (BldN wr w.heap.size w.heap.size (escF mk cd (bs s) k)) ∧ Hid (Below w.heap.size w wr)) (fun i _ => s.size - (RowKit.intOf i).toNat)
 case atStart => exact ⟨0, Nat.zero_le _, rfl, Hd h1.out, hb1⟩
 case round =>
  obtain ⟨k, hk, rfl, HX, HB⟩ := hrel
  have zr := HB.out.size
  by_cases hlt : k < s.size
  · have i0 : (0 : Int) ≤ (k : Int) := by omega
    have i1 : (k : Int) < (s.size : Int) := by omega
    have hsn := escF_succ mk cd s k hlt
    have b1' := byte_lt s k hlt
    have hlen : (escF mk cd (bs s) k).length ≤ 900000 := by
     have := escF_len mk cd (bs s) k
     omega
    have C2 := Hd (CC.out k hlt wr HB.out)
    have C1 := Hd (CM.out k hlt wr HB.out)
    obtain ⟨X, hX⟩ : ∃ X, escF mk cd (bs s) k = X := ⟨_, rfl⟩
    rw [hX] at HX hsn hlen
    obtain ⟨a, ha⟩ : ∃ a, s[k].toNat = a := ⟨_, rfl⟩
    have hai : ((s[k].toNat : Nat) : Int) = (a : Int) := by rw [ha]
    rw [ha] at hsn b1'
    have B92 := Hd (bld_b92 w.heap.size w.heap.size X wr HX.out (by omega) zr)
    have Bown := Hd (bld_byte w.heap.size w.heap.size X a wr HX.out b1' (by omega) zr)
    replace ha := Hd ha
    replace hX := Hd hX
    cases hc : cd k
    · cases hm : mk k
      · rw [hc] at C2 hsn
        rw [hm] at C1 hsn
        replace hsn := Hd hsn
        replace hc := Hd hc
        replace hm := Hd hm
        go_wp2_with fail
        refine C2.out.mono ?_
        rintro _ w2 ⟨rfl, h2⟩
        subst w2
        dsimp only []
        go_wp2_with fail
        refine C1.out.mono ?_
        rintro _ w2 ⟨rfl, h2⟩
        subst w2
        dsimp only []
        go_wp2_with fail
        refine Bown.out.mono ?_
        rintro _ w2 ⟨rfl, h2, hb2⟩
        replace h2 := Hd h2
        replace hb2 := Hd (HB.out.trans hb2)
        dsimp only []
        go_wp2_with fail
        go_roundw
        case rel => exact ⟨k + 1, by omega, by go_num, Hd (by rw [hsn.out]; exact h2.out), hb2⟩
        case measure => simp [RowKit.intOf]; omega
      · rw [hc] at C2 hsn
        rw [hm] at C1 hsn
        replace hsn := Hd hsn
        replace hc := Hd hc
        replace hm := Hd hm
        go_wp2_with fail
        refine C2.out.mono ?_
        rintro _ w2 ⟨rfl, h2⟩
        subst w2
        dsimp only []
        go_wp2_with fail
        refine C1.out.mono ?_
        rintro _ w2 ⟨rfl, h2⟩
        subst w2
        dsimp only []
        go_wp2_with fail
        refine B92.out.mono ?_
        rintro _ w2 ⟨rfl, h2, hb2⟩
        have zr2 := Nat.le_trans zr hb2.size
        have C3 := Hd (bld_byte w.heap.size w.heap.size (X ++ [92]) a w2 h2 b1' (by simp; omega) zr2)
        replace h2 := Hd h2
        replace hb2 := Hd (HB.out.trans hb2)
        dsimp only []
        go_wp2_with fail
        refine C3.out.mono ?_
        rintro _ w3 ⟨rfl, h3, hb3⟩
        rw [List.append_assoc] at h3
        replace h3 := Hd h3
        replace hb3 := Hd (hb2.out.trans hb3)
        dsimp only []
        go_wp2_with fail
        go_roundw
        case rel => exact ⟨k + 1, by omega, by go_num, Hd (by rw [hsn.out]; exact h3.out), hb3⟩
        case measure => simp [RowKit.intOf]; omega
    · rw [hc] at C2 hsn
      replace hsn := Hd hsn
      replace hc := Hd hc
      go_wp2_with fail
      refine C2.out.mono ?_
      rintro _ w2 ⟨rfl, h2⟩
      subst w2
      dsimp only []
      go_wp2_with fail
      refine B92.out.mono ?_
      rintro _ w2 ⟨rfl, h2, hb2⟩
      have zr2 := Nat.le_trans zr hb2.size
      have C3 := Hd (puthex_any w.heap.size w.heap.size (X ++ [92]) a w2 h2 b1' (by simp; omega) zr2)
      replace h2 := Hd h2
      replace hb2 := Hd (HB.out.trans hb2)
      dsimp only []
      go_wp2_with fail
      refine C3.out.mono ?_
      rintro _ w3 ⟨rfl, h3, hb3⟩
      rw [List.append_assoc] at h3
      replace h3 := Hd h3
      replace hb3 := Hd (hb2.out.trans hb3)
      dsimp only []
      go_wp2_with fail
      go_roundw
      case rel => exact ⟨k + 1, by omega, by go_num, Hd (by rw [hsn.out]; exact h3.out), hb3⟩
      case measure => simp [RowKit.intOf]; omega
  · have hkk : k = s.size := by omega
    subst hkk
    have i1 : ¬ ((s.size : Int) < (s.size : Int)) := by omega
    have C3 := Hd (bld_read w.heap.size w.heap.size _ wr HX.out zr)
    go_wp2_with fail
    refine C3.out.mono ?_
    rintro _ w2 ⟨rfl, h2⟩
    replace h2 := Hd (HB.out.trans h2)
    dsimp only []
    go_wp2_with fail
    go_ret
    exact ⟨rfl, h2.out⟩
theorem two_boxes (s : ByteArray) (v : Value) (w w1 : World) (r : Bool) (hb : Below (w.alloc (.cells #[.string s] 9)).heap.size (w.alloc (.cells #[.string s] 9)) w1) (hv : HighF w1 v s r) (W : World)
 (hW : Below (w1.alloc (.cells #[v] 186)).heap.size (w1.alloc (.cells #[v] 186)) W) :
 W.heap[w.heap.size]? = some (.cells #[.string s] 9 (0, 0)) ∧ W.heap[w1.heap.size]? = some (.cells #[v] 186 (0, 0)) ∧ HighF W v s r := by
 have hlt : w.heap.size < (w.alloc (.cells #[.string s] 9)).heap.size := by simp
 have hlt2 := Nat.lt_of_lt_of_le hlt hb.size
 have hal : Below w1.heap.size w1 (w1.alloc (.cells #[v] 186)) := (Below.refl _ _).alloc (Nat.le_refl _) _
 refine ⟨blk_below ?_ hW, blk_below (heap_alloc_new w1 _) hW, (hv.below hal).below hW⟩
 rw [heap_alloc_old w1 _ hlt2, hb.block _ hlt, heap_alloc_new w]
theorem base_boxes (s : ByteArray) (v : Value) (w w1 W : World) (hb : Below (w.alloc (.cells #[.string s] 9)).heap.size (w.alloc (.cells #[.string s] 9)) w1)
 (hW : Below (w1.alloc (.cells #[v] 186)).heap.size (w1.alloc (.cells #[v] 186)) W) : Below w.heap.size w W := by
 have hlt : w.heap.size < (w.alloc (.cells #[.string s] 9)).heap.size := by simp
 have hlt2 := Nat.lt_of_lt_of_le hlt hb.size
 have h1 : Below w.heap.size w (w.alloc (.cells #[.string s] 9)) := (Below.refl _ _).alloc (Nat.le_refl _) _
 have h2 := h1.trans (hb.mono (Nat.le_of_lt hlt))
 exact (h2.alloc (Nat.le_of_lt hlt2) _).trans (hW.mono (by simp; omega))
set_option maxHeartbeats 1600000 in
theorem pfilter_any (s : ByteArray) (w : World) (hs : s.size ≤ 9500) (hT : Tabs w) :
 Calls Tryz.prog 61 #[.string s] w fun e w' => e = .returned (.string (strB (filterE (rightB s) (bs s)))) ∧ Below w.heap.size w w' := by
 have hal : Below w.heap.size w (w.alloc (.cells #[.string s] 9)) := (Below.refl _ _).alloc (Nat.le_refl _) _
 have C := Hd (codesHigh_any s _ hs (hT.below hal))
 have hfin : escF (fun _ => false) (codF (rightB s) (bs s)) (bs s) s.size = filterE (rightB s) (bs s) := by
  rw [filter_esc _ _ _ (by rw [bs_len]; exact Nat.le_refl _), bs_endE]
 rw [← hfin]
 clear hfin hal
 replace hT := Hd hT
 go_enter Tryz.func61, Tryz.ntmps61
 go_wp2_with fail
 refine C.out.mono ?_
 rintro _ w1 ⟨v, rfl, hv, hb⟩
 have hv2 := hv
 obtain ⟨bw, b3, rfl, hv3, hv4⟩ := hv2
 clear hv3 hv4
 have hcx := cell_of_one (two_boxes s _ w w1 (rightB s) hb hv _ (Below.refl _ _)).1
 have BX := Hd (fun W hW => two_boxes s _ w w1 (rightB s) hb hv W hW)
 have BB := Hd (fun W hW => base_boxes s (.func (.func 153) #[] #[.pointer (some ⟨bw, 0, none⟩), .pointer (some ⟨b3, 0, none⟩)]) w w1 W hb hW)
 clear hv hb
 dsimp only []
 go_wp2_with fail
 refine (escapeFilter_any s w.heap.size w1.heap.size (fun _ => false) (codF (rightB s) (bs s)) _ hs ?_ ?_).mono ?_
 · intro k hk W hW
   go_enter Tryz.func106, Tryz.ntmps106
   go_wp2_with fail
   go_ret
   exact ⟨rfl, rfl⟩
 · intro k hk W hW
   obtain ⟨h1, h2, h3⟩ := BX.out W hW
   exact codedF_any s _ _ _ k _ W hk h1 h2 h3
 · rintro _ w3 ⟨rfl, h3⟩
   replace h3 := Hd (BB.out _ h3)
   dsimp only []
   go_wp2_with fail
   go_ret
   exact ⟨rfl, h3.out⟩
theorem dg_lt {c n : Nat} (h : dgE c = some n) : n < 16 := by
 unfold dgE at h
 split at h
 · injection h; omega
 · split at h
   · injection h; omega
   · split at h
     · injection h; omega
     · cases h
theorem pair_some {a b x y : Nat} (h1 : dgE a = some x) (h2 : dgE b = some y) : pairE a b = some (x * 16 + y) := by unfold pairE; rw [h1, h2]
theorem pair_no1 {a b : Nat} (h1 : dgE a = none) : pairE a b = none := by unfold pairE; rw [h1]
theorem pair_no2 {a b : Nat} (h2 : dgE b = none) : pairE a b = none := by
 unfold pairE
 rw [h2]
 split <;> simp_all
theorem unhex_two (a b : Nat) (t : List Nat) : unhexE (a :: b :: t) = (pairE a b).bind fun x => (unhexE t).map (x :: ·) := by
 conv => lhs; unfold unhexE
theorem unhex_odd : ∀ (l : List Nat), l.length % 2 = 1 → unhexE l = none
 | [], h => by cases h
 | [_], _ => rfl
 | a :: b :: t, h => by
   have := unhex_odd t (by simp only [List.length_cons] at h; omega)
   unfold unhexE
   rw [this]
   cases pairE a b <;> rfl
theorem bs_drop2 (s : ByteArray) (k : Nat) (h : k + 1 < s.size) : (bs s).drop k = s[k].toNat :: s[k + 1].toNat :: (bs s).drop (k + 2) := by
 have hl := bs_len s
 rw [List.drop_eq_getElem_cons (by omega), List.drop_eq_getElem_cons (by omega)]
 rw [bs_get s k (by omega), bs_get s (k + 1) h]
theorem or_four : ∀ x < 16, ∀ y < 16, bits BinOp.or IntKind.u8 (((x : Nat) : Int) * 16) ((y : Nat) : Int) = ((x * 16 + y : Nat) : Int) := by decide +kernel
set_option maxRecDepth 4000 in
set_option maxHeartbeats 3200000 in
theorem punhex_any (s : ByteArray) (w : World) (hs : s.size ≤ 9500) :
 Calls Tryz.prog 253 #[.string s] w fun e w' => e = .returned (unV (unhexE (bs s))) ∧ Below w.heap.size w w' := by
 have CD := Hd fun (c : Nat) (h : c < 256) (W : World) => pdigit_any c h W
 by_cases hodd : s.size % 2 = 1
 · have ho : unhexE (bs s) = none := unhex_odd _ (by rw [bs_len]; exact hodd)
   have g1 : (s.size : Int) % 2 = 1 := by omega
   replace ho := Hd ho
   go_enter Tryz.func253, Tryz.ntmps253
   go_wp2_with fail
   go_ret2
   exact ⟨by rw [ho.out]; rfl, Below.refl _ _⟩
 · have g1 : (s.size : Int) % 2 = 0 := by omega
   obtain ⟨m, hm⟩ : ∃ m, s.size = 2 * m := ⟨s.size / 2, by omega⟩
   have g2 : (s.size : Int) / 2 = (m : Int) := by omega
   have XB : (Tryz.prog.info? 5).map (fun i => (i.zero, i.size, i.bytes)) = some (some (.int .u8 0), 1, 1) := by kernel_rfl
   obtain ⟨i0, hi, hz0, hz1, hz2⟩ := info_parts XB
   clear XB
   go_enter Tryz.func253, Tryz.ntmps253
   go_wp2_with (at_make; refine wpList_make_own w rfl _ _ 40 rfl w.heap.size 5 i0 (.int .u8 0) 1 Tryz.underlying40 hi hz0 hz1 _ _ _ m rfl rfl (by omega) (by rw [hz2]; omega) (by unfold maxLen; omega) (Nat.le_refl _) ?_; intro w1 ho1 hg1; have HO1 : Hid (Own w1 w.heap.size (.slice (some ⟨w.heap.size, 0, none⟩) 0 m) []) := Hd ho1; have HB1 : Hid (Below w.heap.size w w1) := Hd ((Below.refl w.heap.size w).grown hg1 (Nat.le_refl _) (fun k hk => by cases hk)); clear ho1 hg1)
   go_wp2_with fail
   clear g1 g2 hi hz0 hz1 hz2 i0
   go_loopw [4, 5] (fun b i wr => ∃ (k N cc : Nat) (B : Option Addr) (L : List Nat), k ≤ s.size ∧ k % 2 = 0 ∧ N ≤ k ∧ i = .int .i64 (k : Int) ∧ b = .slice B N cc ∧ Hid (L.length = N) ∧ Hid (unhexE (bs s) = (unhexE ((bs s).drop k)).map (L ++ ·)) ∧ Hid (Own wr w.heap.size (.slice B N cc) L) ∧ Hid (Below w.heap.size w wr)) (fun _ i _ => s.size - (intOf i).toNat)
   case atStart => exact ⟨0, 0, m, some ⟨w.heap.size, 0, none⟩, [], Nat.zero_le _, rfl, Nat.le_refl _, rfl, rfl, Hd rfl, Hd (by rw [List.drop_zero]; cases unhexE (bs s) <;> rfl), HO1, HB1⟩
   case round =>
    obtain ⟨k, N, cc, B, L, hk, hk2, hN, rfl, rfl, HN, HL, HO, HB⟩ := hrel
    have zr := HB.out.size
    by_cases hlt : k < s.size
    · have hlt1 : k + 1 < s.size := by omega
      have hd := bs_drop2 s k hlt1
      have b1 := byte_lt s k (by omega)
      have b2 := byte_lt s (k + 1) hlt1
      obtain ⟨a, ha⟩ : ∃ a, s[k].toNat = a := ⟨_, rfl⟩
      obtain ⟨b, hb⟩ : ∃ b, s[k + 1].toNat = b := ⟨_, rfl⟩
      have hai : ((s[k].toNat : Nat) : Int) = (a : Int) := by rw [ha]
      have hbi : ((s[k + 1].toNat : Nat) : Int) = (b : Int) := by rw [hb]
      rw [ha, hb] at hd
      rw [ha] at b1
      rw [hb] at b2
      have HL2 := HL.out
      rw [hd] at HL2
      rw [unhex_two] at HL2
      have C1 := Hd (CD.out a b1)
      have C2 := Hd (CD.out b b2)
      have i0 : (0 : Int) ≤ (k : Int) := by omega
      have i1 : (k : Int) < (s.size : Int) := by omega
      have i2 : (k : Int) + 1 < (s.size : Int) := by omega
      have i3 : (0 : Int) ≤ (k : Int) + 1 := by omega
      replace ha := Hd ha
      replace hb := Hd hb
      replace hd := Hd hd
      rcases hx : dgE a with _ | x
      · have hno : unhexE (bs s) = none := by rw [HL2, pair_no1 hx]; rfl
        rw [hx] at C1
        replace hno := Hd hno
        replace HL2 := Hd HL2
        obtain ⟨y, yq, hv⟩ : ∃ (y : Int) (yq : Bool), dgV (dgE b) = .tuple #[.int .u8 y, .bool yq] := by
         rcases dgE b with _ | v
         · exact ⟨_, _, rfl⟩
         · exact ⟨_, _, rfl⟩
        rw [hv] at C2
        unfold dgV at C1
        clear hv
        go_wp2_with fail
        refine (C1.out wr).mono ?_
        rintro _ w2 ⟨rfl, h2⟩
        subst w2
        dsimp only []
        go_wp2_with fail
        refine (C2.out wr).mono ?_
        rintro _ w2 ⟨rfl, h2⟩
        subst w2
        dsimp only []
        go_wp2_with fail
        go_ret2
        exact ⟨by rw [hno.out]; rfl, HB.out⟩
      · rcases hy : dgE b with _ | y
        · have hno : unhexE (bs s) = none := by rw [HL2, pair_no2 hy]; rfl
          rw [hx] at C1
          rw [hy] at C2
          unfold dgV at C1 C2
          replace hno := Hd hno
          replace HL2 := Hd HL2
          go_wp2_with fail
          refine (C1.out wr).mono ?_
          rintro _ w2 ⟨rfl, h2⟩
          subst w2
          dsimp only []
          go_wp2_with fail
          refine (C2.out wr).mono ?_
          rintro _ w2 ⟨rfl, h2⟩
          subst w2
          dsimp only []
          go_wp2_with fail
          go_ret2
          exact ⟨by rw [hno.out]; rfl, HB.out⟩
        · have hyes : unhexE (bs s) = (unhexE ((bs s).drop (k + 2))).map ((L ++ [x * 16 + y]) ++ ·) := by
           rw [HL2, pair_some hx hy]
           show Option.map _ (Option.map _ _) = _
           rw [Option.map_map]
           congr 1
           funext t
           simp
          rw [hx] at C1
          rw [hy] at C2
          unfold dgV at C1 C2
          have x16 := dg_lt hx
          have y16 := dg_lt hy
          have hor := or_four x x16 y y16
          obtain ⟨z, hz⟩ : ∃ z, x * 16 + y = z := ⟨_, rfl⟩
          have z256 : z < 256 := by omega
          rw [hz] at hyes hor
          replace hyes := Hd hyes
          replace HL2 := Hd HL2
          replace hx := Hd hx
          replace hy := Hd hy
          replace hz := Hd hz
          go_wp2_with fail
          refine (C1.out wr).mono ?_
          rintro _ w2 ⟨rfl, h2⟩
          subst w2
          dsimp only []
          go_wp2_with fail
          refine (C2.out wr).mono ?_
          rintro _ w2 ⟨rfl, h2⟩
          subst w2
          dsimp only []
          go_wp2_with (at_builtin; refine append_srcF rfl (.tmp 45) (.tmp 50) rfl w.heap.size (.slice B N cc) L rfl (HO.out.alloc _) (wr.heap.size + 1) (some ⟨wr.heap.size, 0, none⟩) 1 [z] 1 rfl rfl (Src.one wr z) (by rw [HN.out]; simp; omega) (by simp; omega) ?_; intro A3 c3 w3 ho3 hb3 _; have HO3 := Hd ho3; have HB3 := Hd (show Below w.heap.size w w3 from HB.out.trans (((Below.refl w.heap.size wr).alloc zr _).trans hb3)); clear ho3 hb3)
          go_roundw
          case rel => exact ⟨k + 2, N + 1, c3, A3, L ++ [z], by omega, by omega, by omega, by go_num, by rw [HN.out], Hd (by rw [List.length_append, HN.out]; rfl), hyes, Hd (by have := HO3.out; rwa [HN.out] at this), HB3⟩
          case measure => simp [intOf]; omega
    · have hks : k = s.size := by omega
      have hfin : unhexE (bs s) = some L := by
       have := HL.out
       rw [List.drop_eq_nil_of_le (by rw [bs_len]; omega)] at this
       rw [this]
       show some (L ++ []) = _
       rw [List.append_nil]
      replace hfin := Hd hfin
      have cv := HO.out.src.conv
      rw [HN.out] at cv
      have i1 : ¬ ((k : Int) < (s.size : Int)) := by omega
      go_wp2_with fail
      go_ret2
      exact ⟨by rw [hfin.out]; rfl, HB.out⟩
def escD (self : Nat → Bool) : List Nat → Option (Nat × Nat)
 | [] => none
 | a :: u => if self a = true then some (a, 1) else match u with
   | [] => none
   | b :: _ => (pairE a b).map fun x => (x, 2)
def escR (a : Nat) : List Nat → Option (Nat × Nat)
 | [] => none
 | b :: _ => (pairE a b).map fun x => (x, 2)
theorem escD_cons (self : Nat → Bool) (a : Nat) (u : List Nat) : escD self (a :: u) = if self a = true then some (a, 1) else escR a u := by
 cases u <;> rfl
def unescD (self : Nat → Bool) : List Nat → Option (List Nat)
 | [] => some []
 | c :: t => if c = 92 then match t with
    | [] => none
    | a :: u => if self a = true then (unescD self u).map (a :: ·) else match u with
       | [] => none
       | b :: v => (pairE a b).bind fun x => (unescD self v).map (x :: ·)
   else (unescD self t).map (c :: ·)
theorem unesc_own (self : Nat → Bool) (c : Nat) (t : List Nat) (h : c ≠ 92) : unescD self (c :: t) = (unescD self t).map (c :: ·) := by
 conv => lhs; unfold unescD
 rw [if_neg h]
theorem unesc_pre (self : Nat → Bool) (t : List Nat) : ∀ (p : List Nat), 92 ∉ p → unescD self (p ++ t) = (unescD self t).map (p ++ ·)
 | [], _ => by
   show unescD self t = _
   cases unescD self t <;> rfl
 | c :: p, h => by
   have h1 : c ≠ 92 := fun e => h (by simp [e])
   have h2 : 92 ∉ p := fun e => h (List.mem_cons_of_mem _ e)
   show unescD self (c :: (p ++ t)) = _
   rw [unesc_own _ _ _ h1, unesc_pre self t p h2]
   cases unescD self t <;> rfl
theorem unesc_none (self : Nat → Bool) (t : List Nat) (h : escD self t = none) : unescD self (92 :: t) = none := by
 conv => lhs; unfold unescD
 rw [if_pos rfl]
 rcases t with _ | ⟨a, u⟩
 · rfl
 · rw [escD_cons] at h
   show (if self a = true then _ else _) = _
   by_cases hs : self a = true
   · rw [if_pos hs] at h; cases h
   · rw [if_neg hs] at h ⊢
     rcases u with _ | ⟨b, v⟩
     · rfl
     · have h : (pairE a b).map (fun x => (x, 2)) = none := h
       rw [Option.map_eq_none_iff] at h
       show (pairE a b).bind _ = none
       rw [h]
       rfl
theorem unesc_some (self : Nat → Bool) (t : List Nat) (x n : Nat) (h : escD self t = some (x, n)) : unescD self (92 :: t) = (unescD self (t.drop n)).map (x :: ·) ∧ 1 ≤ n ∧ n ≤ 2 ∧ n ≤ t.length := by
 conv => lhs; lhs; unfold unescD
 rw [if_pos rfl]
 rcases t with _ | ⟨a, u⟩
 · cases h
 · rw [escD_cons] at h
   show (if self a = true then _ else _) = _ ∧ _
   by_cases hs : self a = true
   · rw [if_pos hs] at h ⊢
     injection h with h
     injection h with h1 h2
     subst h1; subst h2
     exact ⟨rfl, Nat.le_refl _, by omega, by simp⟩
   · rw [if_neg hs] at h ⊢
     rcases u with _ | ⟨b, v⟩
     · cases h
     · have h : (pairE a b).map (fun x => (x, 2)) = some (x, n) := h
       obtain ⟨y, h1, h2⟩ := Option.map_eq_some_iff.1 h
       injection h2 with h3 h4
       subst h3; subst h4
       show (pairE a b).bind _ = _ ∧ _
       rw [h1]
       exact ⟨rfl, by omega, Nat.le_refl _, by simp⟩
theorem esc_lt (self : Nat → Bool) (t : List Nat) (x n : Nat) (hb : byE t) (h : escD self t = some (x, n)) : x < 256 := by
 rcases t with _ | ⟨a, u⟩
 · cases h
 · rw [escD_cons] at h
   by_cases hs : self a = true
   · rw [if_pos hs] at h
     injection h with h
     injection h with h1 h2
     rw [← h1]
     exact hb.head
   · rw [if_neg hs] at h
     rcases u with _ | ⟨b, v⟩
     · cases h
     · have h : (pairE a b).map (fun x => (x, 2)) = some (x, n) := h
       obtain ⟨y, h1, h2⟩ := Option.map_eq_some_iff.1 h
       injection h2 with h3 h4
       subst h3
       unfold pairE at h1
       have hd : ∀ c n, dgE c = some n → n < 16 := fun c n h => by
        unfold dgE at h
        split at h
        · injection h; omega
        · split at h
          · injection h; omega
          · split at h
            · injection h; omega
            · cases h
       rcases e1 : dgE a with _ | p
       · rw [e1] at h1; cases h1
       · rcases e2 : dgE b with _ | q
         · rw [e1, e2] at h1; cases h1
         · rw [e1, e2] at h1
           have h1 : some (p * 16 + q) = some y := h1
           injection h1 with h1
           have := hd _ _ e1
           have := hd _ _ e2
           omega
def sgE (c : Nat) : Bool := decide (c = 42 ∨ c = 40 ∨ c = 41 ∨ c = 0)
theorem pair_sg1 {a b : Nat} (h : sgE a = true) : pairE a b = none := by
 unfold sgE at h
 have h := of_decide_eq_true h
 have : dgE a = none := by unfold dgE; rw [if_neg (by omega), if_neg (by omega), if_neg (by omega)]
 unfold pairE
 rw [this]
theorem pair_sg2 {a b : Nat} (h : sgE b = true) : pairE a b = none := by
 unfold sgE at h
 have h := of_decide_eq_true h
 have : dgE b = none := by unfold dgE; rw [if_neg (by omega), if_neg (by omega), if_neg (by omega)]
 unfold pairE
 rw [this]
 split <;> simp_all
theorem unf_cons (c : Nat) (t : List Nat) : unfE (c :: t) = if sgE c = true then none else if c = 92 then match t with
 | a :: b :: u => (pairE a b).bind fun x => (unfE u).map (x :: ·)
 | _ => none
 else (unfE t).map (c :: ·) := by
 conv => lhs; unfold unfE
 unfold sgE
 simp only [decide_eq_true_eq]
 rcases t with _ | ⟨a, _ | ⟨b, u⟩⟩ <;> rfl
theorem unf_two : ∀ (n : Nat) (l : List Nat), l.length ≤ n → unfE l = if l.any sgE = true then none else unescD (fun _ => false) l
 | 0, l, h => by
   obtain rfl : l = [] := List.eq_nil_of_length_eq_zero (by omega)
   rfl
 | n + 1, [], _ => rfl
 | n + 1, c :: t, h => by
   have ht : t.length ≤ n := by simp only [List.length_cons] at h; omega
   rw [unf_cons, List.any_cons]
   cases hc : sgE c
   · rw [if_neg (by decide), Bool.false_or]
     by_cases h92 : c = 92
     · subst h92
       rw [if_pos rfl]
       conv => rhs; rhs; unfold unescD
       rw [if_pos rfl]
       rcases t with _ | ⟨a, u⟩
       · rfl
       · rcases u with _ | ⟨b, v⟩
         · show none = _
           split <;> rfl
         · show (pairE a b).bind _ = if (a :: b :: v).any sgE = true then none else (pairE a b).bind fun x => (unescD (fun _ => false) v).map (x :: ·)
           have ih := unf_two n v (by simp only [List.length_cons] at ht; omega)
           rw [List.any_cons, List.any_cons]
           cases ha : sgE a
           · cases hb : sgE b
             · rw [Bool.false_or, Bool.false_or, ih]
               split
               · cases pairE a b <;> rfl
               · rfl
             · rw [pair_sg2 hb]
               split <;> rfl
           · rw [pair_sg1 ha]
             split <;> rfl
     · rw [if_neg h92, unesc_own _ _ _ h92, unf_two n t ht]
       split
       · rfl
       · rfl
   · rw [if_pos rfl, Bool.true_or, if_pos rfl]
def escV : Option (Nat × Nat) → Value
 | some x => .tuple #[.string (strB [x.1]), .int .i64 (x.2 : Int)]
 | none => .tuple #[.string ⟨#[]⟩, .int .i64 0]
set_option maxRecDepth 4000 in
set_option maxHeartbeats 1600000 in
theorem pescaped_any (s t : ByteArray) (w : World) (hs : s.size ≤ 9500) :
 Calls Tryz.prog 235 #[.string s, .string t] w fun e w' => e = .returned (escV (escD (fun a => decide (a ∈ bs t)) (bs s))) ∧ Below w.heap.size w w' := by
 by_cases h0 : s.size = 0
 · have hb : bs s = [] := List.eq_nil_of_length_eq_zero (by rw [bs_len, h0])
   obtain rfl : s = ⟨#[]⟩ := bs_inj hb
   rw [hb]
   clear hb h0 hs
   go_enter Tryz.func235, Tryz.ntmps235
   go_wp2_with fail
   go_ret2
   exact ⟨rfl, Below.refl _ _⟩
 · have f1 : ¬ s.toList = [] := fun e => h0 (by
    have : (bs s).length = 0 := by
     unfold bs
     rw [← ByteArray.toList_eq, e]
     rfl
    rw [bs_len] at this
    exact this)
   have f2 : s.toList.isEmpty = false := by simpa using f1
   have hl0 : 0 < s.size := by omega
   obtain ⟨u, hu⟩ := bs_cons s hl0
   have b1 := byte_lt s 0 hl0
   obtain ⟨a, ha⟩ : ∃ a, s[0].toNat = a := ⟨_, rfl⟩
   have hai : ((s[0].toNat : Nat) : Int) = (a : Int) := by rw [ha]
   rw [ha] at b1 hu
   have CA := pamong_any t a b1 w
   replace ha := Hd ha
   have i1 : (0 : Int) < (s.size : Int) := by omega
   rw [hu, escD_cons]
   cases hin : decide (a ∈ bs t)
   · rw [hin] at CA
     rw [if_neg (by decide)]
     replace CA := Hd CA
     replace hin := Hd hin
     by_cases h2 : s.size < 2
     · have j1 : (s.size : Int) < 2 := by omega
       have hu0 : u = [] := by
        have := congrArg List.length hu
        rw [bs_len, List.length_cons] at this
        exact List.eq_nil_of_length_eq_zero (by omega)
       rw [hu0]
       replace hu := Hd hu
       replace hu0 := Hd hu0
       go_enter Tryz.func235, Tryz.ntmps235
       go_wp2_with fail
       refine CA.out.mono ?_
       rintro _ w2 ⟨rfl, h2⟩
       subst w2
       dsimp only []
       go_wp2_with fail
       go_ret2
       exact ⟨rfl, Below.refl _ _⟩
     · have j1 : ¬ (s.size : Int) < 2 := by omega
       have j2 : (2 : Int) ≤ (s.size : Int) := by omega
       obtain ⟨y, hy⟩ : ∃ y, s.extract 0 2 = y := ⟨_, rfl⟩
       have hy2 := bs_extract s 0 2
       rw [hy, hu] at hy2
       rcases u with _ | ⟨b, v⟩
       · exfalso
         have := congrArg List.length hu
         rw [bs_len] at this
         simp only [List.length_cons, List.length_nil] at this
         omega
       · have hy2 : bs y = [a, b] := hy2
         have hysz : y.size = 2 := by rw [← bs_len, hy2]; rfl
         have CU := fun W => punhex_any y W (by omega)
         have hux : unhexE (bs y) = (pairE a b).map fun x => [x] := by
          rw [hy2]
          unfold unhexE
          cases pairE a b <;> rfl
         simp only [hux] at CU
         replace hu := Hd hu
         replace hy2 := Hd hy2
         replace hux := Hd hux
         show Calls _ _ _ _ fun e w' => e = .returned (escV ((pairE a b).map fun x => (x, 2))) ∧ _
         rcases hp : pairE a b with _ | x
         · simp only [hp] at CU
           replace CU : Hid (∀ W, Calls Tryz.prog 253 #[.string y] W fun e w' => e = .returned (.tuple #[.string ⟨#[]⟩, .bool false]) ∧ Below W.heap.size W w') := Hd CU
           replace hp := Hd hp
           go_enter Tryz.func235, Tryz.ntmps235
           go_wp2_with fail
           refine CA.out.mono ?_
           rintro _ w2 ⟨rfl, h2⟩
           subst w2
           dsimp only []
           go_wp2_with fail
           refine (CU.out _).mono ?_
           rintro _ w2 ⟨rfl, h2⟩
           replace h2 := Hd h2
           dsimp only []
           go_wp2_with fail
           go_ret2
           exact ⟨rfl, h2.out⟩
         · simp only [hp] at CU
           replace CU : Hid (∀ W, Calls Tryz.prog 253 #[.string y] W fun e w' => e = .returned (.tuple #[.string (strB [x]), .bool true]) ∧ Below W.heap.size W w') := Hd CU
           replace hp := Hd hp
           go_enter Tryz.func235, Tryz.ntmps235
           go_wp2_with fail
           refine CA.out.mono ?_
           rintro _ w2 ⟨rfl, h2⟩
           subst w2
           dsimp only []
           go_wp2_with fail
           refine (CU.out _).mono ?_
           rintro _ w2 ⟨rfl, h2⟩
           replace h2 := Hd h2
           dsimp only []
           go_wp2_with fail
           go_ret2
           exact ⟨rfl, h2.out⟩
   · rw [hin] at CA
     rw [if_pos rfl]
     have j1 : (1 : Int) ≤ (s.size : Int) := by omega
     obtain ⟨y, hy⟩ : ∃ y, s.extract 0 1 = y := ⟨_, rfl⟩
     have hy2 := bs_extract s 0 1
     rw [hy, hu] at hy2
     have hy3 : y = strB [a] := by rw [← strB_bs y, hy2]; rfl
     replace CA := Hd CA
     replace hin := Hd hin
     replace hu := Hd hu
     replace hy2 := Hd hy2
     replace hy3 := Hd hy3
     go_enter Tryz.func235, Tryz.ntmps235
     go_wp2_with fail
     refine CA.out.mono ?_
     rintro _ w2 ⟨rfl, h2⟩
     subst w2
     dsimp only []
     go_wp2_with fail
     go_ret2
     exact ⟨by rw [hy3.out]; rfl, Below.refl _ _⟩
def baU (l : List UInt8) : ByteArray := ⟨l.toArray⟩
theorem baU_list (l : List UInt8) : (baU l).data.toList = l := rfl
theorem ix_miss {b : UInt8} : ∀ {r : List UInt8}, b ∉ r → indexByte r b = -1
 | [], _ => rfl
 | x :: l, h => by
   have h1 : ¬ x = b := fun e => h (by simp [e])
   have h2 : b ∉ l := fun e => h (List.mem_cons_of_mem _ e)
   unfold indexByte
   rw [ix_miss h2]
   simp [h1]
theorem ix_hit {b : UInt8} : ∀ {p r : List UInt8}, b ∉ p → indexByte (p ++ b :: r) b = (p.length : Int)
 | [], r, _ => by simp [indexByte]
 | x :: l, r, h => by
   have h1 : ¬ x = b := fun e => h (by simp [e])
   have h2 : b ∉ l := fun e => h (List.mem_cons_of_mem _ e)
   rw [List.cons_append]
   unfold indexByte
   rw [ix_hit h2]
   have h3 : ¬ ((l.length : Int) = -1) := by omega
   simp [h1, h3]
theorem baU_size (l : List UInt8) : (baU l).size = l.length := by simp [baU, ByteArray.size]
theorem baU_hit1 (p q : List UInt8) (b : UInt8) : (baU (p ++ b :: q)).extract 0 p.length = baU p := by
 apply ByteArray.ext
 rw [ByteArray.data_extract]
 apply Array.ext'
 rw [Array.toList_extract]
 simp [baU]
theorem baU_hit2 (p q : List UInt8) (b : UInt8) (n : Nat) (hn : n = (p ++ b :: q).length) : (baU (p ++ b :: q)).extract (p.length + 1) n = baU q := by
 subst hn
 apply ByteArray.ext
 rw [ByteArray.data_extract]
 apply Array.ext'
 rw [Array.toList_extract, List.extract_eq_take_drop]
 show List.take _ (List.drop _ (p ++ b :: q)) = q
 rw [show p.length + 1 = (p ++ [b]).length by simp, show p ++ b :: q = (p ++ [b]) ++ q by simp, List.drop_left]
 exact List.take_of_length_le (by simp; omega)
set_option maxHeartbeats 800000 in
theorem lcut_miss (r : List UInt8) (b : UInt8) (h : b ∉ r) (w : World) :
 Calls Tryz.prog 160 #[.string (baU r), .string { data := #[b] }] w fun e w' => e = .returned (.tuple #[.string (baU r), .string ⟨#[]⟩, .bool false]) ∧ w' = w := by
 have CI := fun w => Tryz.stringslite_Index_one (baU r) b w
 simp only [baU_list, ix_miss h] at CI
 replace CI := Hd CI
 go_enter Tryz.func160, Tryz.ntmps160
 go_wp2_with fail
 refine (CI.out _).mono ?_
 rintro _ w2 ⟨rfl, h2⟩
 subst w2
 dsimp only []
 go_wp2_with fail
 go_returns
 exact ⟨rfl, rfl⟩
set_option maxHeartbeats 800000 in
theorem lcut_hit (p q : List UInt8) (b : UInt8) (h : b ∉ p) (hl : (p ++ b :: q).length ≤ 1000000) (w : World) :
 Calls Tryz.prog 160 #[.string (baU (p ++ b :: q)), .string { data := #[b] }] w fun e w' => e = .returned (.tuple #[.string (baU p), .string (baU q), .bool true]) ∧ Below w.heap.size w w' := by
 have CI := fun w => Tryz.stringslite_Index_one (baU (p ++ b :: q)) b w
 simp only [baU_list, ix_hit h] at CI
 obtain ⟨x, hx⟩ : ∃ x, baU (p ++ b :: q) = x := ⟨_, rfl⟩
 obtain ⟨t, ht⟩ : ∃ t : ByteArray, { data := #[b] } = t := ⟨_, rfl⟩
 have ht1 : t.size = 1 := by rw [← ht]; rfl
 have hxs : x.size = p.length + 1 + q.length := by rw [← hx, baU_size]; simp; omega
 have e1 := baU_hit1 p q b
 have e2 := baU_hit2 p q b x.size (by rw [← hx, baU_size])
 obtain ⟨k, hk⟩ : ∃ k, k = p.length := ⟨_, rfl⟩
 rw [hx, ← hk] at e1 e2
 rw [← ht1] at e2
 rw [hx, ht] at CI ⊢
 rw [← hk] at CI hxs
 have c1 : (0 : Int) ≤ (k : Int) := by omega
 have c2 : (k : Int) ≤ (x.size : Int) := by omega
 have c3 : (0 : Int) ≤ (k : Int) + (t.size : Int) := by omega
 have c4 : (k : Int) + (t.size : Int) ≤ (x.size : Int) := by omega
 have c5 : x.size ≤ 1000000 := by
  rw [← hx, baU_size]; exact hl
 have c6 : t.size ≤ 1 := by omega
 have hb := Hd (below_grow w.heap.size w (Nat.le_refl _) 1 #[])
 replace CI := Hd CI
 clear hx ht hk hxs h hl ht1
 go_enter Tryz.func160, Tryz.ntmps160
 go_wp2_with fail
 refine (CI.out _).mono ?_
 rintro _ w2 ⟨rfl, h2⟩
 subst w2
 dsimp only []
 go_wp2_with fail
 go_region
 go_wp2_with fail
 go_returns
 exact ⟨by rw [← e2]; try rfl, hb.out⟩
theorem cut_miss (r : List UInt8) (b : UInt8) (h : b ∉ r) (w : World) :
 Calls Tryz.prog 112 #[.string (baU r), .string { data := #[b] }] w fun e w' => e = .returned (.tuple #[.string (baU r), .string ⟨#[]⟩, .bool false]) ∧ w' = w := by
 have C := Hd (lcut_miss r b h w)
 go_enter Tryz.func112, Tryz.ntmps112
 go_wp2_with fail
 refine C.out.mono ?_
 rintro _ w2 ⟨rfl, h2⟩
 subst w2
 dsimp only []
 go_wp2_with fail
 go_returns
 exact ⟨rfl, rfl⟩
theorem cut_hit (p q : List UInt8) (b : UInt8) (h : b ∉ p) (hl : (p ++ b :: q).length ≤ 1000000) (w : World) :
 Calls Tryz.prog 112 #[.string (baU (p ++ b :: q)), .string { data := #[b] }] w fun e w' => e = .returned (.tuple #[.string (baU p), .string (baU q), .bool true]) ∧ Below w.heap.size w w' := by
 have C := Hd (lcut_hit p q b h hl w)
 go_enter Tryz.func112, Tryz.ntmps112
 go_wp2_with fail
 refine C.out.mono ?_
 rintro _ w2 ⟨rfl, h2⟩
 replace h2 := Hd h2
 dsimp only []
 go_wp2_with fail
 go_returns
 exact ⟨rfl, h2.out⟩
theorem baU_strB (l : List Nat) : strB l = baU (l.map UInt8.ofNat) := by
 apply ba_ext
 rw [strB_list]
 rfl
theorem ofNat_not {p : List Nat} (hb : byE p) (h : 92 ∉ p) : (92 : UInt8) ∉ p.map UInt8.ofNat := by
 intro hm
 obtain ⟨x, hx, he⟩ := List.mem_map.1 hm
 have h1 := congrArg UInt8.toNat he
 rw [UInt8.toNat_ofNat', Nat.mod_eq_of_lt (hb x hx)] at h1
 have h1 : x = 92 := h1
 exact h (h1 ▸ hx)
theorem cutN_miss (r : ByteArray) (h : 92 ∉ bs r) (w : World) :
 Calls Tryz.prog 112 #[.string r, .string { data := #[92] }] w fun e w' => e = .returned (.tuple #[.string r, .string ⟨#[]⟩, .bool false]) ∧ w' = w := by
 have hr : r = baU ((bs r).map UInt8.ofNat) := by rw [← baU_strB, strB_bs]
 rw [hr]
 exact cut_miss _ 92 (ofNat_not (by_bs r) h) w
theorem cutN_hit (r : ByteArray) (p q : List Nat) (hr : bs r = p ++ 92 :: q) (h : 92 ∉ p) (hl : r.size ≤ 1000000) (w : World) :
 Calls Tryz.prog 112 #[.string r, .string { data := #[92] }] w fun e w' => e = .returned (.tuple #[.string (strB p), .string (strB q), .bool true]) ∧ Below w.heap.size w w' := by
 have hb := by_bs r
 rw [hr] at hb
 have hp : byE p := fun c hc => hb c (List.mem_append_left _ hc)
 have e : r = baU (p.map UInt8.ofNat ++ 92 :: q.map UInt8.ofNat) := by
  rw [← strB_bs r, hr, baU_strB, List.map_append]
  rfl
 have hz : (p.map UInt8.ofNat ++ (92 : UInt8) :: q.map UInt8.ofNat).length ≤ 1000000 := by
  have := congrArg List.length hr
  rw [bs_len] at this
  simp only [List.length_append, List.length_cons, List.length_map] at this ⊢
  omega
 rw [e, baU_strB p, baU_strB q]
 exact cut_hit _ _ 92 (ofNat_not hp h) hz w
theorem cutN_cases : ∀ l : List Nat, 92 ∉ l ∨ ∃ p q, l = p ++ 92 :: q ∧ 92 ∉ p
 | [] => .inl List.not_mem_nil
 | c :: t => by
   by_cases h : c = 92
   · exact .inr ⟨[], t, by rw [h]; rfl, List.not_mem_nil⟩
   · rcases cutN_cases t with h1 | ⟨p, q, h1, h2⟩
     · exact .inl fun hm => by
        rcases List.mem_cons.1 hm with e | e
        · exact h e.symm
        · exact h1 e
     · exact .inr ⟨c :: p, q, by rw [h1]; rfl, fun hm => by
        rcases List.mem_cons.1 hm with e | e
        · exact h e.symm
        · exact h2 e⟩
theorem str_ne {s : ByteArray} (h : 0 < s.size) : ¬ s.toList = [] := fun e => by
 have : (bs s).length = 0 := by
  unfold bs
  rw [← ByteArray.toList_eq, e]
  rfl
 rw [bs_len] at this
 omega
def szU : Value → Nat
 | .string x => x.size
 | _ => 0
set_option maxRecDepth 4000 in
set_option maxHeartbeats 3200000 in
theorem punescape_any (s t : ByteArray) (w : World) (hs : s.size ≤ 9500) :
 Calls Tryz.prog 223 #[.string s, .string t] w fun e w' => e = .returned (unV (unescD (fun a => decide (a ∈ bs t)) (bs s))) ∧ Below w.heap.size w w' := by
 obtain ⟨self, hself⟩ : ∃ self : Nat → Bool, (fun a => decide (a ∈ bs t)) = self := ⟨_, rfl⟩
 have CE := fun (r : ByteArray) (hr : r.size ≤ 9500) (W : World) => pescaped_any r t W hr
 rw [hself] at CE ⊢
 replace CE := Hd CE
 clear hself
 have hal : Below w.heap.size w (w.alloc (.cells #[.pointer none, .slice none 0 0] 74)) := (Below.refl _ _).alloc (Nat.le_refl _) _
 have H0 := Hd (BldN.new w)
 replace hal := Hd hal
 go_enter Tryz.func223, Tryz.ntmps223
 go_wp2_with fail
 go_loopw [0] (fun sv wr => ∃ (r : ByteArray) (L : List Nat), sv = .string r ∧ r.size ≤ 9500 ∧ L.length + r.size ≤ 9500 ∧ Hid (unescD self (bs s) = (unescD self (bs r)).map (L ++ ·)) ∧ Hid (BldN wr w.heap.size w.heap.size L) ∧ Hid (Below w.heap.size w wr)) (fun sv _ => szU sv)
 case atStart => exact ⟨s, [], rfl, hs, by simpa using hs, Hd (by cases unescD self (bs s) <;> rfl), H0, hal⟩
 case round =>
  obtain ⟨r, L, rfl, hr, hL, HS, HX, HB⟩ := hrel
  have zr := HB.out.size
  by_cases h0 : r.size = 0
  · have hb : bs r = [] := List.eq_nil_of_length_eq_zero (by rw [bs_len, h0])
    obtain rfl : r = ⟨#[]⟩ := bs_inj hb
    have hfin : unescD self (bs s) = some L := by
     rw [HS.out, hb]
     show some (L ++ []) = _
     rw [List.append_nil]
    replace hfin := Hd hfin
    have C3 := Hd (bld_read w.heap.size w.heap.size _ wr HX.out zr)
    clear hb h0
    go_wp2_with fail
    refine C3.out.mono ?_
    rintro _ w2 ⟨rfl, h2⟩
    replace h2 := Hd (HB.out.trans h2)
    dsimp only []
    go_wp2_with fail
    go_ret2
    exact ⟨by rw [hfin.out]; rfl, h2.out⟩
  · have hr0 : 0 < r.size := by omega
    have f1 := str_ne hr0
    have f2 : r.toList.isEmpty = false := by simpa using f1
    rcases cutN_cases (bs r) with hm | ⟨p, q, hpq, hm⟩
    · have C1 := Hd (cutN_miss r hm wr)
      have C2 := Hd (bld_str w.heap.size w.heap.size L r wr HX.out (by omega) zr)
      have hfin : unescD self (bs s) = some (L ++ bs r) := by
       rw [HS.out]
       have := unesc_pre self [] (bs r) hm
       rw [List.append_nil] at this
       rw [this]
       show some (L ++ (bs r ++ [])) = _
       rw [List.append_nil]
      replace hfin := Hd hfin
      go_wp2_with fail
      refine C1.out.mono ?_
      rintro _ w2 ⟨rfl, h2⟩
      subst w2
      dsimp only []
      go_wp2_with fail
      refine C2.out.mono ?_
      rintro _ w3 ⟨rfl, h3, hb3⟩
      have C3 := Hd (bld_read w.heap.size w.heap.size _ w3 h3 (Nat.le_trans zr hb3.size))
      have HB3 := Hd (HB.out.trans hb3)
      clear h3 hb3
      dsimp only []
      go_wp2_with fail
      refine C3.out.mono ?_
      rintro _ w4 ⟨rfl, h4⟩
      replace h4 := Hd (HB3.out.trans h4)
      dsimp only []
      go_wp2_with fail
      go_ret2
      exact ⟨by rw [hfin.out]; rfl, h4.out⟩
    · have hlen := congrArg List.length hpq
      rw [bs_len, List.length_append, List.length_cons] at hlen
      have hby := by_bs r
      rw [hpq] at hby
      have hp : byE p := fun c hc => hby c (List.mem_append_left _ hc)
      have hq : byE q := fun c hc => hby c (List.mem_append_right _ (List.mem_cons_of_mem _ hc))
      have C1 := Hd (cutN_hit r p q hpq hm (by omega) wr)
      have hqs : (strB q).size = q.length := strB_sizeE q
      have hps : (strB p).size = p.length := strB_sizeE p
      have C2 := Hd (fun W (h : BldN W w.heap.size w.heap.size L) (hz : w.heap.size ≤ W.heap.size) => bld_str w.heap.size w.heap.size L (strB p) W h (by omega) hz)
      have C3 := CE.out (strB q) (by omega)
      rw [bs_strB q hq] at C3
      have hst : unescD self (bs s) = (unescD self (92 :: q)).map ((L ++ p) ++ ·) := by
       rw [HS.out, hpq, unesc_pre self (92 :: q) p hm]
       cases unescD self (92 :: q) with
       | none => rfl
       | some x =>
         show some (L ++ (p ++ x)) = some ((L ++ p) ++ x)
         rw [List.append_assoc]
      rcases he : escD self q with _ | ⟨x, n⟩
      · rw [he] at C3
        have C3 : Hid (∀ W, Calls Tryz.prog 235 #[.string (strB q), .string t] W fun e w' => e = .returned (.tuple #[.string ⟨#[]⟩, .int .i64 0]) ∧ Below W.heap.size W w') := Hd C3
        have hno : unescD self (bs s) = none := by rw [hst, unesc_none self q he]; rfl
        replace hno := Hd hno
        replace hst := Hd hst
        replace he := Hd he
        replace hpq := Hd hpq
        clear hqs hps
        go_wp2_with fail
        refine C1.out.mono ?_
        rintro _ w2 ⟨rfl, h2⟩
        have C4 := Hd (C2.out w2 (HX.out.below h2) (Nat.le_trans zr h2.size))
        have HB2 := Hd (HB.out.trans (h2.mono zr))
        clear h2
        dsimp only []
        go_wp2_with fail
        refine C4.out.mono ?_
        rintro _ w3 ⟨rfl, h3, hb3⟩
        have HB3 := Hd (HB2.out.trans hb3)
        clear h3 hb3
        dsimp only []
        go_wp2_with fail
        refine (C3.out w3).mono ?_
        rintro _ w4 ⟨rfl, h4⟩
        replace h4 := Hd (HB3.out.trans (h4.mono HB3.out.size))
        dsimp only []
        go_wp2_with fail
        go_ret2
        exact ⟨by rw [hno.out]; rfl, h4.out⟩
      · rw [he] at C3
        have C3 : Hid (∀ W, Calls Tryz.prog 235 #[.string (strB q), .string t] W fun e w' => e = .returned (.tuple #[.string (strB [x]), .int .i64 (n : Int)]) ∧ Below W.heap.size W w') := Hd C3
        obtain ⟨u1, u2, u3, u4⟩ := unesc_some self q x n he
        have hx := esc_lt self q x n hq he
        rw [u1] at hst
        obtain ⟨r2, hr2⟩ : ∃ r2, (strB q).extract n (strB q).size = r2 := ⟨_, rfl⟩
        have hr2b : bs r2 = q.drop n := by
         rw [← hr2, bs_extract, bs_strB q hq, hqs, List.take_of_length_le (Nat.le_refl _)]
        have hr2s : r2.size = q.length - n := by rw [← bs_len, hr2b, List.length_drop]
        have hst2 : unescD self (bs s) = (unescD self (bs r2)).map ((L ++ p ++ [x]) ++ ·) := by
         rw [hst, hr2b]
         cases unescD self (q.drop n) with
         | none => rfl
         | some y =>
           show some ((L ++ p) ++ (x :: y)) = some ((L ++ p ++ [x]) ++ y)
           simp
        have hxs : bs (strB [x]) = [x] := bs_strB _ (fun c hc => by rw [List.mem_singleton.1 hc]; exact hx)
        have hxz : (strB [x]).size = 1 := strB_sizeE _
        have n0 : ¬ (n : Int) = 0 := by omega
        have n1 : ((n : Int) == 0) = false := beq_eq_false_iff_ne.2 n0
        obtain ⟨T, hT⟩ : ∃ T, strB q = T := ⟨_, rfl⟩
        rw [hT] at hqs hr2 C1 C3
        have n2 : (n : Int) ≤ (T.size : Int) := by omega
        have n3 : (0 : Int) ≤ (n : Int) := by omega
        replace hst := Hd hst
        replace hst2 := Hd hst2
        replace he := Hd he
        replace hpq := Hd hpq
        replace u1 := Hd u1
        replace hr2b := Hd hr2b
        replace hxs := Hd hxs
        replace hxz := Hd hxz
        replace hT := Hd hT
        replace hqs := Hd hqs
        replace hps := Hd hps
        go_wp2_with fail
        refine C1.out.mono ?_
        rintro _ w2 ⟨rfl, h2⟩
        have C4 := Hd (C2.out w2 (HX.out.below h2) (Nat.le_trans zr h2.size))
        have HB2 := Hd (HB.out.trans (h2.mono zr))
        clear h2
        dsimp only []
        go_wp2_with fail
        refine C4.out.mono ?_
        rintro _ w3 ⟨rfl, h3, hb3⟩
        rw [bs_strB p hp] at h3
        have HX3 := Hd h3
        have HB3 := Hd (HB2.out.trans hb3)
        clear h3 hb3
        dsimp only []
        go_wp2_with fail
        refine (C3.out w3).mono ?_
        rintro _ w4 ⟨rfl, h4⟩
        have HX4 := Hd (HX3.out.below h4)
        have HB4 := Hd (HB3.out.trans (h4.mono HB3.out.size))
        clear h4
        have C5 := Hd (bld_str w.heap.size w.heap.size (L ++ p) (strB [x]) w4 HX4.out (by rw [hxz.out]; simp; omega) HB4.out.size)
        dsimp only []
        go_wp2_with fail
        refine C5.out.mono ?_
        rintro _ w5 ⟨rfl, h5, hb5⟩
        rw [hxs.out] at h5
        have HX5 := Hd h5
        have HB5 := Hd (HB4.out.trans hb5)
        clear h5 hb5
        dsimp only []
        go_wp2_with fail
        go_roundw
        case rel => exact ⟨r2, L ++ p ++ [x], rfl, by omega, by simp; omega, hst2, HX5, HB5⟩
        case measure => show r2.size < r.size; omega
set_option maxRecDepth 100000 in
set_option maxHeartbeats 3200000 in
theorem ixr_bad (t : ByteArray) (ht : ∀ i, (h : i < t.size) → t[i].toNat < 128) (w : World) :
 Calls Tryz.prog 249 #[.string t, .int .i32 65533] w fun e w' => e = .returned (.int .i64 (-1)) ∧ Below w.heap.size w w' := by
 replace ht := Hd ht
 go_enter Tryz.func249, Tryz.ntmps249
 go_wp2_with fail
 go_loopg [5, 6] t.size (fun g _ _ wx => ∃ i : Nat, i + g = t.size ∧ wx = w.iter t i)
 case atStart => exact ⟨0, by omega, rfl⟩
 case round =>
  obtain ⟨i, hig, rfl⟩ := hrel
  cases gk with
  | zero =>
    obtain rfl : i = t.size := by omega
    have hnx := run_next_end (P := Tryz.prog) w t t.size
    go_wp2_with fail
    go_ret
    exact ⟨rfl, (Below.refl w.heap.size w).alloc (Nat.le_refl _) _⟩
  | succ g =>
    have hi : i < t.size := by omega
    have h128 := ht.out i hi
    have hnx := fun ty => run_next_ascii (P := Tryz.prog) w t i ty hi h128
    obtain ⟨a, ha⟩ : ∃ a, t[i].toNat = a := ⟨_, rfl⟩
    rw [ha] at hnx h128
    have g1 : ((a : Int) == 65533) = false := beq_eq_false_iff_ne.2 (by omega)
    have g2 : ¬ (a : Int) = 65533 := by omega
    replace ha := Hd ha
    go_wp2_with fail
    go_roundg g
    case measure => omega
    case rel => exact ⟨i + 1, by omega, rfl⟩
theorem enc_high (r : Nat) (h0 : 128 ≤ r) (h1 : r ≤ 1114111) : ∃ m x, (bs (Utf8.encode (r : Int))).length = m + 1 ∧ 1 ≤ m ∧ m ≤ 3 ∧ (bs (Utf8.encode (r : Int)))[m]? = some x ∧ 128 ≤ x ∧ x < 256 := by
 have hof : ∀ n, n < 256 → (UInt8.ofNat n).toNat = n := fun n h => by rw [UInt8.toNat_ofNat', Nat.mod_eq_of_lt h]
 have c1 : ¬ r < 128 := by omega
 unfold bs
 by_cases c2 : r < 2048
 · have v : Utf8.valid (r : Int) = true := by simp [Utf8.valid]; omega
   refine ⟨1, 128 + r % 64, ?_, by omega, by omega, ?_, by omega, by omega⟩
   · simp [Utf8.encode, v, c1, c2]
   · simp [Utf8.encode, v, c1, c2]
     omega
 · by_cases hb : 55296 ≤ r ∧ r ≤ 57343
   · have v : Utf8.valid (r : Int) = false := by simp [Utf8.valid]; omega
     refine ⟨2, 189, ?_, by omega, by omega, ?_, by omega, by omega⟩
     · simp [Utf8.encode, v, Utf8.runeError]
     · simp [Utf8.encode, v, Utf8.runeError]
   · have v : Utf8.valid (r : Int) = true := by simp [Utf8.valid]; omega
     by_cases c3 : r < 65536
     · refine ⟨2, 128 + r % 64, ?_, by omega, by omega, ?_, by omega, by omega⟩
       · simp [Utf8.encode, v, c1, c2, c3]
       · simp [Utf8.encode, v, c1, c2, c3]
         omega
     · refine ⟨3, 128 + r % 64, ?_, by omega, by omega, ?_, by omega, by omega⟩
       · simp [Utf8.encode, v, c1, c2, c3]
       · simp [Utf8.encode, v, c1, c2, c3]
         omega
theorem ixb_high (T : ByteArray) (b : Nat) (hb : 128 ≤ b) (hb2 : b < 256) (hT : ∀ x ∈ bs T, x < 128) (w : World) :
 Calls Tryz.prog 154 #[.string T, .int .u8 (b : Int)] w fun e w' => e = .returned (.int .i64 (-1)) ∧ w' = w := by
 have C := Tryz.strings_IndexByte T (b : Int) w
 have hx := ixb_bs T b hb2
 have hq : ((b : Int)).toNat = b := by omega
 rw [hq] at C
 have hn : decide (b ∈ bs T) = false := decide_eq_false (fun h => by have := hT b h; omega)
 rw [hn] at hx
 have h1 := of_decide_eq_false hx
 have h2 := Lib.indexByte_ge T.data.toList b.toUInt8
 have h3 : Lib.indexByte T.data.toList b.toUInt8 = -1 := by omega
 rw [h3] at C
 exact C
set_option maxRecDepth 100000 in
set_option maxHeartbeats 3200000 in
theorem ixr_high (t : ByteArray) (ht : ∀ x ∈ bs t, x < 128) (hz : t.size = 4) (r : Nat) (h0 : 128 ≤ r) (h1 : r ≤ 1114111) (h2 : r ≠ 65533) (w : World) :
 Calls Tryz.prog 249 #[.string t, .int .i32 (r : Int)] w fun e w' => e = .returned (.int .i64 (-1)) ∧ Below w.heap.size w w' := by
 have CV := Tryz.utf8_ValidRune (r : Int) w
 have j1 : (0 : Int) ≤ (r : Int) := by omega
 have j2 : ¬ (r : Int) < 128 := by omega
 have j3 : ((r : Int) == 65533) = false := beq_eq_false_iff_ne.2 (by omega)
 have j4 : ¬ (r : Int) = 65533 := by omega
 obtain ⟨v, hv⟩ : ∃ v, Lib.validRune (r : Int) = v := ⟨_, rfl⟩
 rw [hv] at CV
 replace CV := Hd CV
 cases v
 · replace hv := Hd hv
   replace ht := Hd ht
   go_enter Tryz.func249, Tryz.ntmps249
   go_wp2_with fail
   refine CV.out.mono ?_
   rintro _ w2 ⟨rfl, h2⟩
   subst w2
   dsimp only []
   go_wp2_with fail
   go_ret
   exact ⟨rfl, Below.refl _ _⟩
 · replace hv := Hd hv
   obtain ⟨m, b, q1, q2, q3, q4, q5, q6⟩ := enc_high r h0 h1
   obtain ⟨R, hR⟩ : ∃ R, Utf8.encode (r : Int) = R := ⟨_, rfl⟩
   rw [hR] at q1 q4
   rw [bs_len] at q1
   have hm : m < R.size := by omega
   have q7 := bs_atE R m hm
   rw [q4] at q7
   injection q7 with q7
   have hbi : ((R[m].toNat : Nat) : Int) = (b : Int) := by rw [q7]
   have hmt : m < t.size := by omega
   have q8 := ht _ (List.mem_of_getElem? (bs_atE t m hmt))
   obtain ⟨a, ha⟩ : ∃ a, t[m].toNat = a := ⟨_, rfl⟩
   have hai : ((t[m].toNat : Nat) : Int) = (a : Int) := by rw [ha]
   rw [ha] at q8
   have k1 : ((a : Int) == (b : Int)) = false := beq_eq_false_iff_ne.2 (by omega)
   have k9 : Hid (((a : Int) != (b : Int)) = true) := Hd (by rw [bne, k1]; rfl)
   replace k1 := Hd k1
   obtain ⟨T, hT⟩ : ∃ T, t.extract (m + 1) t.size = T := ⟨_, rfl⟩
   have hTb : ∀ x ∈ bs T, x < 128 := fun x hx => by
    rw [← hT, bs_extract] at hx
    exact ht x (List.mem_of_mem_take (List.mem_of_mem_drop hx))
   have CI := Hd fun W => ixb_high T b q5 q6 hTb W
   have k3 : (R.size : Int) - 1 = (m : Int) := by omega
   have k4 : (0 : Int) ≤ (m : Int) := by omega
   have k5 : (m : Int) < (R.size : Int) := by omega
   have k6 : (m : Int) < (t.size : Int) := by omega
   have k7 : (m : Int) + 1 ≤ (t.size : Int) := by omega
   have k10 : (0 : Int) ≤ (m : Int) + 1 := by omega
   have k11 : IntKind.i64.wrap ((m : Int) + 1) = (m : Int) + 1 := IntWalk.i64_in _ (by omega)
   replace ht := Hd ht
   replace hTb := Hd hTb
   replace q4 := Hd q4
   replace q7 := Hd q7
   replace ha := Hd ha
   replace hz := Hd hz
   replace q1 := Hd q1
   go_enter Tryz.func249, Tryz.ntmps249
   go_wp2_with fail
   refine CV.out.mono ?_
   rintro _ w2 ⟨rfl, h2⟩
   subst w2
   dsimp only []
   go_wp2_with fail
   go_step3
   go_wp2_with fail
   go_loop [9] (fun i => i = .int .i64 (m : Int)) (fun _ => 0)
   case atStart => rfl
   case round =>
    subst hrel
    go_wp2_with fail
    go_step3
    go_wp2_with fail
    go_quiet (fail)
    rw [k9.out]
    generalize hW2 : w.drewN _ = W2
    have hB2 : Hid (Below w.heap.size w W2) := Hd (by rw [← hW2]; exact below_drewE (Below.refl _ _) _)
    replace hW2 := Hd hW2
    go_wp2_with fail
    go_quiet ((go_at_call 154; exact Calls.quiet_of_same (CI.out _)))
    generalize hW3 : W2.drewN _ = W3
    have hB3 : Hid (Below w.heap.size w W3) := Hd (by rw [← hW3]; exact below_drewE hB2.out _)
    replace hW3 := Hd hW3
    go_wp2_with fail
    rw [Exit.noGoto_ret]
    go_wp2_with fail
    rw [Exit.noGoto_ret]
    go_wp2_with fail
    go_ret
    exact ⟨rfl, hB3.out⟩
theorem enc_all {c : Nat} (h : uOk c) (h1 : 128 ≤ c) : ∀ x ∈ uEnc c, 128 ≤ x := by
 intro x hx
 unfold uOk at h
 unfold uEnc at hx
 rw [if_neg (by omega)] at hx
 split at hx
 · simp only [List.mem_cons, List.not_mem_nil, or_false] at hx
   omega
 · split at hx
   · simp only [List.mem_cons, List.not_mem_nil, or_false] at hx
     omega
   · simp only [List.mem_cons, List.not_mem_nil, or_false] at hx
     omega
theorem dec_high (s : ByteArray) (pos : Nat) (h : pos < s.size) (ha : 128 ≤ s[pos].toNat) : ∃ r n, Utf8.decode s pos = (r, n) ∧ 128 ≤ r ∧ r ≤ 1114111 ∧ 1 ≤ n ∧ pos + n ≤ s.size ∧ ∀ x ∈ ((bs s).drop pos).take n, 128 ≤ x := by
 have hd := bs_drop1E s pos h
 have hlen : ((bs s).drop pos).length = s.size - pos := by rw [List.length_drop, bs_len]
 rw [decode_u s pos h]
 by_cases h0 : (uNext ((bs s).drop pos)).2 = 0
 · rw [if_pos h0]
   refine ⟨65533, 1, rfl, by omega, by omega, by omega, by omega, fun x hx => ?_⟩
   rw [hd] at hx
   have hx : x ∈ [s[pos].toNat] := hx
   rw [List.mem_singleton.1 hx]
   exact ha
 · rw [if_neg h0]
   obtain ⟨k1, k2, k3⟩ := uNext_ok _ h0
   have hle := uNext_le ((bs s).drop pos)
   obtain ⟨⟨c, n⟩, hu⟩ : ∃ q, uNext ((bs s).drop pos) = q := ⟨_, rfl⟩
   rw [hu] at k1 k2 k3 hle ⊢
   have k1 : uOk c := k1
   have k2 : (bs s).drop pos = uEnc c ++ ((bs s).drop pos).drop n := k2
   have k3 : n = (uEnc c).length := k3
   have hle : n ≤ ((bs s).drop pos).length := hle
   have hpos := uEnc_pos c
   have hc : 128 ≤ c := by
    rcases Nat.lt_or_ge c 128 with hlt | hge
    · exfalso
      have e : uEnc c = [c] := by unfold uEnc; rw [if_pos hlt]
      rw [e, hd] at k2
      injection k2 with k4 _
      omega
    · exact hge
   refine ⟨c, n, rfl, hc, k1.1, by omega, by omega, fun x hx => ?_⟩
   have e : ((bs s).drop pos).take n = uEnc c := by
    rw [k2, k3, List.take_append_of_le_length (Nat.le_refl _), List.take_of_length_le (Nat.le_refl _)]
   rw [e] at hx
   exact enc_all k1 hc x hx
def anyS (s t : ByteArray) : Bool := (bs s).any fun x => decide (x ∈ bs t)
theorem anyS_hit {s t : ByteArray} {pos : Nat} (h : pos < s.size) (hm : s[pos].toNat ∈ bs t) : anyS s t = true := by
 unfold anyS
 rw [List.any_eq_true]
 exact ⟨_, List.mem_of_getElem? (bs_atE s pos h), by simpa using hm⟩
theorem anyS_none {s t : ByteArray} (h : ∀ x ∈ (bs s).take s.size, x ∉ bs t) : anyS s t = false := by
 rw [bs_endE] at h
 unfold anyS
 rw [List.any_eq_false]
 intro x hx
 simpa using h x hx
theorem take_more {l : List Nat} {pos n : Nat} {x : Nat} (h : x ∈ l.take (pos + n)) : x ∈ l.take pos ∨ x ∈ (l.drop pos).take n := by
 rw [List.take_add] at h
 exact List.mem_append.1 h
set_option maxRecDepth 100000 in
set_option maxHeartbeats 3200000 in
theorem ixa_short (s t : ByteArray) (ht : ∀ x ∈ bs t, x < 128) (hz : t.size = 4) (h8 : s.size ≤ 8) (w : World) :
 Calls Tryz.prog 234 #[.string s, .string t] w fun e w' => ∃ z : Int, e = .returned (.int .i64 z) ∧ decide (0 ≤ z) = anyS s t ∧ Below w.heap.size w w' := by
 have f1 := str_ne (s := t) (by omega)
 have f2 : t.toList.isEmpty = false := by simpa using f1
 have n1 : ¬ (t.size : Int) = 1 := by omega
 have n2 : ((t.size : Int) == 1) = false := beq_eq_false_iff_ne.2 n1
 have CS := Hd (Tryz.strings_shouldUseASCIISet (s.size : Int) w)
 have e8 : decide ((8 : Int) < (s.size : Int)) = false := decide_eq_false (by omega)
 rw [e8] at CS
 have CI : Hid (∀ (r : Nat) (W : World), 128 ≤ r → r ≤ 1114111 → Calls Tryz.prog 249 #[.string t, .int .i32 (r : Int)] W fun e w' => e = .returned (.int .i64 (-1)) ∧ Below W.heap.size W w') := Hd fun r W h1 h2 => by
  by_cases e : r = 65533
  · subst e
    refine ixr_bad t (fun i hi => ?_) W
    exact ht _ (List.mem_of_getElem? (bs_atE t i hi))
  · exact ixr_high t ht hz r h1 h2 e W
 have CA : Hid (∀ (a : Nat) (W : World), a < 128 → Calls Tryz.prog 249 #[.string t, .int .i32 (a : Int)] W fun e w' => ∃ z : Int, e = .returned (.int .i64 z) ∧ decide (0 ≤ z) = decide (a ∈ bs t) ∧ w' = W) := Hd fun a W h1 => by
  refine (Tryz.strings_IndexRune_ascii t (a : Int) W (by omega) (by omega)).mono ?_
  rintro _ w' ⟨rfl, h2⟩
  exact ⟨_, rfl, ixb_bs t a (by omega), h2⟩
 replace ht := Hd ht
 replace hz := Hd hz
 clear e8
 go_enter Tryz.func234, Tryz.ntmps234
 go_wp2_with fail
 refine CS.out.mono ?_
 rintro _ w2 ⟨rfl, h2⟩
 subst w2
 dsimp only []
 go_wp2_with fail
 go_loopg [9, 10] s.size (fun g _ _ wx => ∃ pos : Nat, pos ≤ s.size ∧ g = s.size - pos ∧ Hid (wx.heap[w.heap.size]? = some (.stringIter s pos)) ∧ Hid (Below w.heap.size w wx) ∧ Hid (∀ x ∈ (bs s).take pos, x ∉ bs t))
 case atStart => exact ⟨0, Nat.zero_le _, rfl, Hd (World.iter_heap w s 0), Hd ((Below.refl _ _).alloc (Nat.le_refl _) _), Hd (fun x hx => absurd hx (by simp))⟩
 case round =>
  obtain ⟨pos, hpos, hg, HT, HB, HN⟩ := hrel
  have hsz : w.heap.size < wr.heap.size := (Array.getElem?_eq_some_iff.1 HT.out).1
  by_cases hp : pos < s.size
  · by_cases ha : s[pos].toNat < 128
    · have hnx := fun ty => Lib.run_next_ascii_at (P := Tryz.prog) wr w.heap.size s pos ty HT.out hp ha
      have hsn := bs_snocE s pos hp
      obtain ⟨a, hae⟩ : ∃ a, s[pos].toNat = a := ⟨_, rfl⟩
      rw [hae] at hnx ha hsn
      obtain ⟨W, hW⟩ : ∃ W, wr.iterAt w.heap.size s (pos + 1) = W := ⟨_, rfl⟩
      have hit2 := Lib.iterAt_heap wr w.heap.size s pos (pos + 1) HT.out
      have hbw2 := Lib.below_iterAt HB.out (k := w.heap.size) (Nat.le_refl _) s (pos + 1)
      rw [hW] at hnx hit2 hbw2
      have HT2 := Hd hit2
      have HB2 := Hd hbw2
      replace hW := Hd hW
      clear hit2 hbw2
      have C := Hd (CA.out a W ha)
      by_cases hin : a ∈ bs t
      · have hfin := anyS_hit hp (by rw [hae]; exact hin)
        replace hin := Hd hin
        replace hsn := Hd hsn
        replace hae := Hd hae
        replace hfin := Hd hfin
        go_wp2_with fail
        refine C.out.mono ?_
        rintro _ w2 ⟨z, rfl, hz2, h2⟩
        subst w2
        rw [decide_eq_true hin.out] at hz2
        have hz3 : (0 : Int) ≤ z := of_decide_eq_true hz2
        dsimp only []
        go_wp2_with fail
        go_ret
        exact ⟨_, rfl, by rw [hfin.out]; exact decide_eq_true (by omega), HB2.out⟩
      · have HN2 : Hid (∀ x ∈ (bs s).take (pos + 1), x ∉ bs t) := Hd fun x hx => by
         rw [hsn] at hx
         rcases List.mem_append.1 hx with h | h
         · exact HN.out x h
         · rw [List.mem_singleton.1 h]
           exact hin
        replace hsn := Hd hsn
        replace hin := Hd hin
        replace hae := Hd hae
        go_wp2_with fail
        refine C.out.mono ?_
        rintro _ w2 ⟨z, rfl, hz2, h2⟩
        subst w2
        rw [decide_eq_false hin.out] at hz2
        have hz3 : ¬ (0 : Int) ≤ z := of_decide_eq_false hz2
        dsimp only []
        go_wp2_with fail
        go_roundg (s.size - (pos + 1))
        case measure => omega
        case rel => exact ⟨pos + 1, by omega, rfl, HT2, HB2, HN2⟩
    · obtain ⟨r, n, hd, r1, r2, r3, r4, r5⟩ := dec_high s pos hp (by omega)
      have hnx : ∀ ty, (Instr.next (.pointer (some ⟨w.heap.size, 0, none⟩)) true ty).run Tryz.prog wr = _ := fun ty => Lib.run_next_any_at wr w.heap.size s pos ty HT.out hp
      rw [hd] at hnx
      dsimp only [] at hnx
      obtain ⟨W, hW⟩ : ∃ W, wr.iterAt w.heap.size s (pos + n) = W := ⟨_, rfl⟩
      have hit2 := Lib.iterAt_heap wr w.heap.size s pos (pos + n) HT.out
      have hbw2 := Lib.below_iterAt HB.out (k := w.heap.size) (Nat.le_refl _) s (pos + n)
      rw [hW] at hnx hit2 hbw2
      have HT2 := Hd hit2
      have HB2 := Hd hbw2
      replace hW := Hd hW
      clear hit2 hbw2
      have C := Hd (CI.out r W r1 r2)
      have HN2 : Hid (∀ x ∈ (bs s).take (pos + n), x ∉ bs t) := Hd fun x hx => by
       rcases take_more hx with h | h
       · exact HN.out x h
       · have h1 := r5 x h
         exact fun h2 => by
          have := ht.out x h2
          omega
      replace r5 := Hd r5
      replace hd := Hd hd
      replace ha := Hd ha
      go_wp2_with fail
      refine C.out.mono ?_
      rintro _ w2 ⟨rfl, h2⟩
      have hlt : w.heap.size < W.heap.size := (Array.getElem?_eq_some_iff.1 HT2.out).1
      have HT3 : Hid (w2.heap[w.heap.size]? = some (.stringIter s (pos + n))) := Hd (by rw [h2.block _ hlt]; exact HT2.out)
      have HB3 := Hd (HB2.out.trans (h2.mono (Nat.le_of_lt hlt)))
      clear h2
      dsimp only []
      go_wp2_with fail
      go_roundg (s.size - (pos + n))
      case measure => omega
      case rel => exact ⟨pos + n, by omega, rfl, HT3, HB3, HN2⟩
  · obtain rfl : pos = s.size := by omega
    have hnx := fun ty => Lib.run_next_end_at (P := Tryz.prog) wr w.heap.size s s.size ty HT.out hp
    have hfin := anyS_none HN.out
    replace hfin := Hd hfin
    go_wp2_with fail
    go_ret
    exact ⟨_, rfl, by rw [hfin.out]; rfl, HB.out⟩
theorem ixa_pure (t : List UInt8) : ∀ s : List UInt8, decide (0 ≤ Lib.indexAny s t) = s.any fun x => decide (x ∈ t)
 | [] => rfl
 | c :: l => by
   have ih := ixa_pure t l
   have hge := Lib.indexAny_ge t l
   have e : Lib.indexAny (c :: l) t = if t.contains c = true then 0 else if (Lib.indexAny l t == -1) = true then -1 else Lib.indexAny l t + 1 := by rw [Lib.indexAny]
   rw [List.any_cons, ← ih, e]
   by_cases hc : c ∈ t
   · rw [if_pos (by simpa using hc), decide_eq_true hc]
     rfl
   · rw [if_neg (by simpa using hc), decide_eq_false hc, Bool.false_or]
     refine Bool.eq_iff_iff.2 ?_
     simp only [decide_eq_true_iff]
     split
     · rename_i h
       have := beq_iff_eq.1 h
       omega
     · rename_i h
       have : ¬ Lib.indexAny l t = -1 := fun e => h (beq_iff_eq.2 e)
       omega
theorem ixa_anyS (s t : ByteArray) : decide (0 ≤ Lib.indexAny s.data.toList t.data.toList) = anyS s t := by
 rw [ixa_pure]
 unfold anyS bs
 rw [List.any_map]
 congr 1
 funext x
 refine Bool.eq_iff_iff.2 ?_
 rw [decide_eq_true_iff]
 show _ ↔ decide (x.toNat ∈ t.data.toList.map UInt8.toNat) = true
 rw [decide_eq_true_iff, List.mem_map]
 exact ⟨fun h => ⟨x, h, rfl⟩, fun ⟨y, hy, he⟩ => by rw [← UInt8.toNat_inj.1 he]; exact hy⟩
theorem set_zero : (Tryz.prog.info? 313).map (fun i => (i.zero, i.size)) = some (some (.agg (Array.replicate 256 (.bool false))), 256) := by kernel_rfl
theorem ixa_any (s t : ByteArray) (ht : ∀ x ∈ bs t, x < 128) (hz : t.size = 4) (hs : s.size ≤ 9500) (w : World) :
 Calls Tryz.prog 234 #[.string s, .string t] w fun e w' => ∃ z : Int, e = .returned (.int .i64 z) ∧ decide (0 ≤ z) = anyS s t ∧ Below w.heap.size w w' := by
 by_cases h8 : s.size ≤ 8
 · exact ixa_short s t ht hz h8 w
 · refine (Tryz.strings_IndexAny_long (zero_of_info set_zero).1 s t w (by omega) (by omega) (by omega) (by omega) (fun j b hb => ?_)).mono ?_
   · refine ht b.toNat ?_
     unfold bs
     exact List.mem_map.2 ⟨b, List.mem_of_getElem? hb, rfl⟩
   · rintro _ w' ⟨rfl, rfl⟩
     exact ⟨_, rfl, ixa_anyS s t, ((Below.refl _ _).alloc (Nat.le_refl _) _).alloc (by simp) _⟩
set_option maxHeartbeats 1600000 in
theorem contains_any (s t : ByteArray) (ht : ∀ x ∈ bs t, x < 128) (hz : t.size = 4) (hs : s.size ≤ 9500) (w : World) :
 Calls Tryz.prog 222 #[.string s, .string t] w fun e w' => e = .returned (.bool (anyS s t)) ∧ Below w.heap.size w w' := by
 have C := Hd (ixa_any s t ht hz hs w)
 replace ht := Hd ht
 go_enter Tryz.func222, Tryz.ntmps222
 go_wp2_with fail
 refine C.out.mono ?_
 rintro _ w2 ⟨z, rfl, hz2, h2⟩
 replace hz2 := Hd hz2
 replace h2 := Hd h2
 dsimp only []
 go_wp2_with fail
 go_ret
 exact ⟨by rw [← hz2.out]; rfl, h2.out⟩
set_option maxHeartbeats 1600000 in
theorem punfilter_any (s : ByteArray) (w : World) (hs : s.size ≤ 9500) :
 Calls Tryz.prog 194 #[.string s] w fun e w' => e = .returned (unV (unfE (bs s))) ∧ Below w.heap.size w w' := by
 have hb : bs ⟨#[42, 40, 41, 0]⟩ = [42, 40, 41, 0] := rfl
 have CC := contains_any s ⟨#[42, 40, 41, 0]⟩ (by rw [hb]; decide) rfl hs w
 have hany : anyS s ⟨#[42, 40, 41, 0]⟩ = (bs s).any sgE := by
  unfold anyS
  rw [hb]
  congr 1
  funext x
  unfold sgE
  refine Bool.eq_iff_iff.2 ?_
  simp
 rw [hany] at CC
 have hself : (fun a => decide (a ∈ bs ⟨#[]⟩)) = fun _ => false := by
  funext a
  have : bs ⟨#[]⟩ = [] := rfl
  rw [this]
  simp
 have CU := fun W => punescape_any s ⟨#[]⟩ W hs
 rw [hself] at CU
 rw [unf_two _ _ (Nat.le_refl _)]
 clear hany hb hself
 cases ha : (bs s).any sgE
 · rw [ha] at CC
   rw [if_neg (by decide)]
   obtain ⟨y, q, hv⟩ := unV_form (unescD (fun _ => false) (bs s))
   rw [hv] at CU ⊢
   replace CC := Hd CC
   replace CU := Hd CU
   replace ha := Hd ha
   replace hv := Hd hv
   go_enter Tryz.func194, Tryz.ntmps194
   go_wp2_with fail
   refine CC.out.mono ?_
   rintro _ w2 ⟨rfl, h2⟩
   replace h2 := Hd h2
   dsimp only []
   go_wp2_with fail
   refine (CU.out w2).mono ?_
   rintro _ w3 ⟨rfl, h3⟩
   replace h3 := Hd (h2.out.trans (h3.mono h2.out.size))
   dsimp only []
   go_wp2_with fail
   go_ret2
   exact ⟨rfl, h3.out⟩
 · rw [ha] at CC
   rw [if_pos rfl]
   replace CC := Hd CC
   replace ha := Hd ha
   clear CU
   go_enter Tryz.func194, Tryz.ntmps194
   go_wp2_with fail
   refine CC.out.mono ?_
   rintro _ w2 ⟨rfl, h2⟩
   replace h2 := Hd h2
   dsimp only []
   go_wp2_with fail
   go_ret2
   exact ⟨rfl, h2.out⟩
end Go.Proofs.YtcbiedonmibfaaaGreatDoor
