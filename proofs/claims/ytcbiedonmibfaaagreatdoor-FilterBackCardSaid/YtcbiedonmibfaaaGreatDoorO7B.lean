/-
  What oid.Describe and oid.Text answer.
-/
import Derived.Test.YtcbiedonmibfaaaGreatDoorO7A
import Derived.Test.YtcbiedonmibfaaaGreatDoorDT
import Derived.Test.YtcbiedonmibfaaaGreatDoorWA
import Derived.Test.YtcbiedonmibfaaaGreatDoorST
import Derived.Test.YtcbiedonmibfaaaGreatDoorStr
import Derived.Test.YtcbiedonmibfaaaGreatDoorNum
import Derived.Test.YtcbiedonmibfaaaGreatDoorMore
import Derived.Sort.KeysCollected
import Derived.Lib.Bytealg
import Derived.Handy
import Derived.Lib.Hide
import Derived.Deep.QuietTactic
import Derived.BigQuiet
import Derived.Deep.AppendLies
import Derived.Laws.AppendOwnNone
import Derived.Laws.OwnMore
import Derived.Lib.AppendIntMem
import Derived.BigGuardPart
import Derived.Deep.RegionHeldLaw
import Derived.BigRegion
import Derived.StillTailTactics
import Derived.IntWalk
import Derived.Test.YtcbiedonmibfaaaGreatDoorShelf
import Derived.Lib.CutLaws
import Derived.Lib.ConvBytes
import Derived.Laws.IdiomStrings
import Derived.Lib.QuietBelow
import Derived.Maps.OwnOps
import Derived.Maps.OwnSet
import Derived.Maps.Views
import Derived.Sort.OwnSorted
import Derived.Shelf.Strings.BuilderF
namespace Go.Proofs.YtcbiedonmibfaaaGreatDoor.O7
open Go.Lib
open Go.RowKit Go.Lib
open Go.RowKit
theorem bl_lt : ∀ (x y : List UInt8), Op.bytesLess x y = decide (x < y)
 | [], [] => by simp [Op.bytesLess]
 | _ :: _, [] => by simp [Op.bytesLess]
 | [], _ :: _ => by simp [Op.bytesLess]
 | a :: x, b :: y => by
   rw [Op.bytesLess, bl_lt x y, Bool.eq_iff_iff]
   simp only [Bool.or_eq_true, Bool.and_eq_true, decide_eq_true_eq, beq_iff_eq, List.cons_lt_cons_iff]
theorem ins_has (x : List UInt8) : ∀ (L : List (List UInt8)) (y : List UInt8), y = x ∨ y ∈ L → y ∈ ins x L
 | [], y, h => by simpa [ins] using h
 | z :: r, y, h => by
   unfold ins
   split
   · rcases h with h | h
     · exact List.mem_cons_of_mem _ (ins_has x r y (.inl h))
     · rcases List.mem_cons.1 h with h | h
       · simp [h]
       · exact List.mem_cons_of_mem _ (ins_has x r y (.inr h))
   · split
     · rename_i h1
       rcases h with h | h
       · simp [h, h1]
       · exact h
     · rcases h with h | h
       · simp [h]
       · exact List.mem_cons_of_mem _ h
theorem foldl_has : ∀ (L O : List (List UInt8)) (y : List UInt8), y ∈ L ∨ y ∈ O → y ∈ L.foldl (fun O x => ins x O) O
 | [], _, _, h => by simpa using h
 | x :: L, O, y, h => by
   rw [List.foldl_cons]
   refine foldl_has L _ y ?_
   rcases h with h | h
   · rcases List.mem_cons.1 h with h | h
     · exact .inr (ins_has x O y (.inl h))
     · exact .inl h
   · exact .inr (ins_has x O y (.inr h))
theorem opts_iff (L : List (List UInt8)) (y : List UInt8) : y ∈ opts L ↔ y ∈ L :=
 ⟨opts_mem, fun h => foldl_has L [] y (.inl h)⟩
theorem asc_pair : ∀ {L : List (List UInt8)}, Asc L → L.Pairwise (fun x y => Op.bytesLess x y = true)
 | [], _ => List.Pairwise.nil
 | _ :: _, h => List.Pairwise.cons h.1 (asc_pair h.2)
theorem asc_nodup {L : List (List UInt8)} (h : Asc L) : L.Nodup := (asc_pair h).imp fun {a b} h1 e => by
 subst e
 rw [bl_irrefl] at h1
 cases h1
theorem sort_opts (D L : List (List UInt8)) (hD : D.Nodup) (hm : ∀ x, x ∈ D ↔ x ∈ L) : D.mergeSort leB = opts L := by
 have hp : D.Perm (opts L) := (List.perm_ext_iff_of_nodup hD (asc_nodup (opts_asc L))).2 fun x => by rw [hm, opts_iff]
 rw [mergeSort_of_perm hp]
 refine List.mergeSort_of_pairwise ((asc_pair (opts_asc L)).imp fun {a b} h => ?_)
 rw [bl_lt, decide_eq_true_eq] at h
 rw [leB, decide_eq_true_eq]
 exact List.le_of_lt h
theorem ix_miss {b : UInt8} : ∀ {r : List UInt8}, b ∉ r → indexByte r b = -1
 | [], _ => rfl
 | x :: l, h => by
   have h1 : ¬ x = b := fun e => h (by simp [e])
   have h2 : b ∉ l := fun e => h (List.mem_cons_of_mem _ e)
   unfold indexByte
   rw [ix_miss h2]
   simp [h1]
theorem ix_hit {b : UInt8} : ∀ {p r : List UInt8}, b ∉ p → indexByte (p ++ b :: r) b = (p.length : Int)
 | [], r, _ => by simp [indexByte]
 | x :: l, r, h => by
   have h1 : ¬ x = b := fun e => h (by simp [e])
   have h2 : b ∉ l := fun e => h (List.mem_cons_of_mem _ e)
   rw [List.cons_append]
   unfold indexByte
   rw [ix_hit h2]
   have h3 : ¬ ((l.length : Int) = -1) := by omega
   simp [h1, h3]
theorem part_cases (b : UInt8) : ∀ r : List UInt8, (b ∉ r ∧ sp b r = [r]) ∨ ∃ p q, r = p ++ b :: q ∧ b ∉ p ∧ sp b r = p :: sp b q
 | [] => .inl ⟨by simp, rfl⟩
 | x :: l => by
   by_cases h : x = b
   · subst h
     exact .inr ⟨[], l, rfl, by simp, by simp [sp]⟩
   · rcases part_cases b l with ⟨h1, h2⟩ | ⟨p, q, h1, h2, h3⟩
     · refine .inl ⟨?_, ?_⟩
       · intro hm
         rcases List.mem_cons.1 hm with h4 | h4
         · exact h h4.symm
         · exact h1 h4
       · rw [sp, if_neg h, h2]
         rfl
     · refine .inr ⟨x :: p, q, by rw [h1]; rfl, ?_, ?_⟩
       · intro hm
         rcases List.mem_cons.1 hm with h4 | h4
         · exact h h4.symm
         · exact h2 h4
       · rw [sp, if_neg h, h3]
         rfl
theorem mapM_arcs {l : List UInt8} {M : List Nat} (h : (sp 46 l).mapM arcV = some M) : txA M = l ∧ ∀ n ∈ M, n < 10000000000 := by
 obtain ⟨h3, h4⟩ := mapM_get arcV _ _ h
 refine ⟨?_, fun n hn => ?_⟩
 · have e : M.map decDigits = sp 46 l := by
    refine List.ext_getElem (by rw [List.length_map, h3]) fun i h5 h6 => ?_
    rw [List.getElem_map]
    exact (arcV_some (h4 i h6 (by simpa using h5))).1
   unfold txA
   rw [e, jn_sp]
 · obtain ⟨i, hi, rfl⟩ := List.getElem_of_mem hn
   exact (arcV_some (h4 i (by omega) hi)).2.2
theorem arcs_few {l : List UInt8} {M : List Nat} (h : (sp 46 l).mapM arcV = some M) (h16 : M.length ≤ 16) : arcsO l = if okA M = true then some M else none := by
 obtain ⟨h1, h2⟩ := mapM_arcs h
 have h3 := txA_len M h2
 rw [h1] at h3
 unfold arcsO
 rw [if_pos (by omega), h]
 by_cases hk : okA M = true
 · rw [if_pos hk]; simp [hk]
 · rw [if_neg hk]; simp [hk]
theorem arcs_many {l : List UInt8} {M : List Nat} (h : (sp 46 l).mapM arcV = some M) (h16 : 16 < M.length) : arcsO l = none := by
 unfold arcsO
 split
 · rw [h, Option.filter_eq_none_iff]
   intro a ha hk
   have := okA_len hk
   simp at ha
   subst ha
   omega
 · rfl
theorem low_semi (c : UInt8) : low c = 59 ↔ c = 59 := by
 have h : ∀ n, n < 256 → (low (UInt8.ofNat n) = 59 ↔ UInt8.ofNat n = 59) := by decide +kernel
 have := h c.toNat c.toNat_lt
 rwa [UInt8.ofNat_toNat] at this
theorem low_sign (c : UInt8) : signB (low c) = signB c := by
 have h : ∀ n, n < 256 → (signB (low (UInt8.ofNat n)) = signB (UInt8.ofNat n)) := by decide +kernel
 have := h c.toNat c.toNat_lt
 rwa [UInt8.ofNat_toNat] at this
theorem low_letter (c : UInt8) : letterB (low c) = letterB c := by
 have h : ∀ n, n < 256 → (letterB (low (UInt8.ofNat n)) = letterB (UInt8.ofNat n)) := by decide +kernel
 have := h c.toNat c.toNat_lt
 rwa [UInt8.ofNat_toNat] at this
theorem low_digit (c : UInt8) : (low c = 46 ∨ isDig (low c) = true) → low c = c := by
 have h : ∀ n, n < 256 → ((low (UInt8.ofNat n) = 46 ∨ isDig (low (UInt8.ofNat n)) = true) → low (UInt8.ofNat n) = UInt8.ofNat n) := by decide +kernel
 have := h c.toNat c.toNat_lt
 rwa [UInt8.ofNat_toNat] at this
theorem digit_low (c : UInt8) : (c = 46 ∨ isDig c = true) → low c = c := by
 have h : ∀ n, n < 256 → ((UInt8.ofNat n = 46 ∨ isDig (UInt8.ofNat n) = true) → low (UInt8.ofNat n) = UInt8.ofNat n) := by decide +kernel
 have := h c.toNat c.toNat_lt
 rwa [UInt8.ofNat_toNat] at this
theorem sp_low : ∀ l : List UInt8, sp 59 (lowL l) = (sp 59 l).map lowL
 | [] => rfl
 | c :: l => by
   have ih := sp_low l
   show sp 59 (low c :: lowL l) = _
   unfold sp
   by_cases h : c = 59
   · rw [if_pos ((low_semi c).2 h), if_pos h, ih]
     rfl
   · rw [if_neg (fun e => h ((low_semi c).1 e)), if_neg h, ih]
     have hne := sp_ne 59 l
     obtain ⟨a, t, e⟩ : ∃ a t, sp 59 l = a :: t := by
      cases hs : sp 59 l with
      | nil => exact absurd hs hne
      | cons a t => exact ⟨a, t, rfl⟩
     rw [e]
     rfl
theorem lowL_len (l : List UInt8) : (lowL l).length = l.length := by simp [lowL]
theorem signs_low (l : List UInt8) : signsB (lowL l) = signsB l := by
 unfold signsB
 rw [lowL_len]
 congr 1
 unfold lowL
 rw [List.all_map]
 have e : (signB ∘ low) = signB := funext fun c => low_sign c
 rw [e]
theorem word_low (l : List UInt8) : wordB (lowL l) = wordB l := by
 unfold wordB
 rw [lowL_len, signs_low]
 congr 2
 cases l with
 | nil => rfl
 | cons c l => exact low_letter c
theorem arcs_digits {l : List UInt8} {L : List Nat} (h : arcsO l = some L) : ∀ c ∈ l, c = 46 ∨ isDig c = true := by
 intro c hc
 rw [← (arcsO_some h).1] at hc
 unfold txA at hc
 have hd : ∀ n, ∀ x ∈ decDigits n, isDig x = true := fun n x hx => List.all_eq_true.1 (digs_dec n) x hx
 cases L with
 | nil => simp [jn] at hc
 | cons a L =>
   simp only [List.map_cons, jn, List.mem_append, List.mem_flatMap, List.mem_map] at hc
   rcases hc with hc | ⟨p, ⟨n, _, rfl⟩, hc⟩
   · exact .inr (hd a c hc)
   · rcases List.mem_cons.1 hc with hc | hc
     · exact .inl hc
     · exact .inr (hd n c hc)
theorem arcs_low (l : List UInt8) : (arcsO (lowL l)).isSome = (arcsO l).isSome := by
 by_cases h : lowL l = l
 · rw [h]
 · have h1 : arcsO l = none := by
    cases ha : arcsO l with
    | none => rfl
    | some L =>
      exfalso
      refine h ?_
      unfold lowL
      exact (List.map_congr_left (g := id) fun c hc => digit_low c (arcs_digits ha c hc)).trans (by simp)
   have h2 : arcsO (lowL l) = none := by
    cases ha : arcsO (lowL l) with
    | none => rfl
    | some L =>
      exfalso
      refine h ?_
      have h3 := arcs_digits ha
      unfold lowL at h3 ⊢
      exact (List.map_congr_left (g := id) fun c hc => low_digit c (h3 (low c) (List.mem_map_of_mem hc))).trans (by simp)
   rw [h1, h2]
theorem desc_of {l a : List UInt8} {T : List (List UInt8)} (h : sp 59 l = a :: T) : descO l =
 if 64 < l.length then none else if ((arcsO a).isSome || wordB a) && T.all signsB then some (lowL a, opts (T.map lowL)) else none := by
 unfold descO
 rw [sp_low, h]
 simp only [List.map_cons, List.headD_cons, List.tail_cons]
 rw [arcs_low, word_low, List.all_map]
 have e : (signsB ∘ lowL) = signsB := funext fun x => signs_low x
 rw [e]
theorem all_bad {T : List (List UInt8)} {p : List UInt8} (hp : p ∈ T) (h : signsB p = false) : T.all signsB = false := by
 rw [Bool.eq_false_iff]
 intro e
 rw [List.all_eq_true.1 e p hp] at h
 cases h
def addO (D : List (List UInt8)) (x : List UInt8) : List (List UInt8) := if x ∈ D then D else D ++ [x]
theorem addO_nodup {D : List (List UInt8)} {x : List UInt8} (h : D.Nodup) : (addO D x).Nodup := by
 unfold addO
 split
 · exact h
 · rename_i hx
   rw [List.nodup_append]
   exact ⟨h, by simp, fun a ha b hb e => hx (by
    rw [List.mem_singleton] at hb
    rw [← hb, ← e]
    exact ha)⟩
theorem addO_mem {D : List (List UInt8)} {x y : List UInt8} : y ∈ addO D x ↔ y ∈ D ∨ y = x := by
 unfold addO
 split
 · rename_i hx
   constructor
   · exact .inl
   · rintro (h | rfl)
     · exact h
     · exact hx
 · simp
theorem addO_len (D : List (List UInt8)) (x : List UInt8) : (addO D x).length ≤ D.length + 1 := by
 unfold addO
 split
 · omega
 · simp
theorem size_listO (s : ByteArray) : s.data.toList.length = s.size := by simp
theorem get_listO (s : ByteArray) (k : Nat) (h : k < s.size) : s.data.toList[k]'(by simpa using h) = s[k] := rfl
theorem take_snocO (s : ByteArray) (k : Nat) (h : k < s.size) : s.data.toList.take (k + 1) = s.data.toList.take k ++ [s[k]] := by
 rw [List.take_succ_eq_append_getElem (by simpa using h)]; rfl
theorem ret_boolO {a b : Bool} (h : a = b) : Ending.returned (.bool a) = .returned (.bool b) := by rw [h]
theorem all_snoc {α : Type} (p : α → Bool) (l : List α) (c : α) : (l ++ [c]).all p = (l.all p && p c) := by simp
theorem all_no {α : Type} (p : α → Bool) (l : List α) (k : Nat) (h : k < l.length) (hd : p l[k] = false) : l.all p = false := by
 rw [Bool.eq_false_iff]
 intro ha
 rw [List.all_eq_true] at ha
 have := ha _ (List.getElem_mem h)
 rw [hd] at this
 cases this
theorem head_listO (s : ByteArray) (h : 0 < s.size) : s.data.toList.headD 0 = s[0] := by
 have h1 := get_listO s 0 h
 rcases e : s.data.toList with _ | ⟨c, r⟩
 · have := size_listO s
   rw [e] at this
   simp at this
   omega
 · simp only [e] at h1
   exact h1
def svT (m : Nat) : List Nat := if 0 < m then svHi m else []
theorem svT_step (m : Nat) (h : 0 < m) : svT m = svT (m / 128) ++ [m % 128 + 128] := by
 unfold svT
 rw [if_pos h, svHi]
 split
 · rw [if_neg (by omega)]
   have : m % 128 = m := Nat.mod_eq_of_lt (by omega)
   rw [this]
   rfl
 · rw [if_pos (by omega)]
theorem sv_T (n : Nat) : sv n = svT (n / 128) ++ [n % 128] := by
 unfold sv svT
 split
 · rw [if_neg (by omega), Nat.mod_eq_of_lt (by omega)]
   rfl
 · rw [if_pos (by omega)]
theorem svT_len : ∀ k m, m < 128 ^ k → (svT m).length ≤ k
 | 0, m, h => by
   have : m = 0 := by simpa using h
   subst this
   exact Nat.le_refl _
 | k + 1, m, h => by
   by_cases h0 : 0 < m
   · rw [svT_step m h0, List.length_append]
     have := svT_len k (m / 128) (by rw [Nat.pow_succ] at h; omega)
     simp only [List.length_cons, List.length_nil]
     omega
   · unfold svT
     rw [if_neg h0]
     exact Nat.zero_le _
theorem sv_len5 (n : Nat) (h : n ≤ 20000000000) : (sv n).length ≤ 5 := by
 rw [sv_T, List.length_append]
 have := svT_len 4 (n / 128) (by omega)
 simp only [List.length_cons, List.length_nil]
 omega
structure SrcO (w : World) (K : Nat) (A : Option Addr) (c : Nat) (L : List (List UInt8)) : Prop where
 le : L.length ≤ c
 nil : A = none → c = 0
 at_ : ∀ ad, A = some ad → (0 < L.length → ad.block < K) ∧ ∀ (j : Nat) (l : List UInt8), L[j]? = some l → w.cell? (ad.add j) = some (.string (baO l))
theorem SrcO.none_ (w : World) (K : Nat) : SrcO w K none 0 [] := ⟨Nat.le_refl _, fun _ => rfl, fun _ h => by cases h⟩
theorem SrcO.keep {w w' : World} {K : Nat} {A : Option Addr} {c : Nat} {L : List (List UInt8)} (h : SrcO w K A c L) (hk : ∀ p : Addr, p.block < K → w'.cell? p = w.cell? p) : SrcO w' K A c L := by
 refine ⟨h.le, h.nil, fun ad e => ⟨(h.at_ ad e).1, fun j l hj => ?_⟩⟩
 have hl : j < L.length := (List.getElem?_eq_some_iff.1 hj).1
 rw [hk _ (by rw [add_block]; exact (h.at_ ad e).1 (by omega))]
 exact (h.at_ ad e).2 j l hj
theorem SrcO.below {w w' : World} {K : Nat} {A : Option Addr} {c : Nat} {L : List (List UInt8)} (h : SrcO w K A c L) (hb : Below K w w') : SrcO w' K A c L := h.keep fun _ hp => hb.cell hp
theorem SrcO.more {w : World} {K K' : Nat} {A : Option Addr} {c : Nat} {L : List (List UInt8)} (h : SrcO w K A c L) (hb : K ≤ K') : SrcO w K' A c L :=
 ⟨h.le, h.nil, fun ad e => ⟨fun h0 => Nat.lt_of_lt_of_le ((h.at_ ad e).1 h0) hb, (h.at_ ad e).2⟩⟩
theorem OwnO.src {w : World} {base : Nat} {A : Option Addr} {c n : Nat} {L : List (List UInt8)} (h : OwnO w base (.slice A n c) L) : SrcO w w.heap.size A c L := by
 rcases h.form with ⟨e1, rfl⟩ | ⟨g, c', e1, _, e2, e3, _, e4⟩
 · injection e1 with e1 _ e3
   subst e1 e3
   exact SrcO.none_ _ _
 · injection e1 with e1 _ e5
   subst e1 e5
   refine ⟨e3, (by simp), fun ad e => ?_⟩
   injection e with e
   subst e
   refine ⟨fun _ => e2, fun j l hj => ?_⟩
   have hadd : (⟨g, 0, none⟩ : Addr).add j = ⟨g, j, none⟩ := by unfold Addr.add; split <;> simp_all
   rw [hadd]
   exact e4 j l hj
theorem wt_take (L : List (List UInt8)) : ∀ k, wt (L.take k) ≤ wt L := fun k => by
 have h := congrArg wt (List.take_append_drop k L)
 unfold wt at h ⊢
 rw [List.flatMap_append, List.length_append] at h
 omega
def pushT (s : List UInt8) (m : Nat) : List UInt8 := if s = [] then decDigits (min (m / 40) 2) ++ 46 :: decDigits (m - 40 * min (m / 40) 2) else s ++ 46 :: decDigits m
def rdL : List UInt8 → Nat → List Nat → Option (List UInt8)
 | s, _, [] => some s
 | s, n, x :: r => if 200 ≤ s.length then some s else if 100000000000 < n then none else if 127 < x then rdL s (n * 128 + x % 128) r else rdL (pushT s (n * 128 + x % 128)) 0 r
theorem rdL_cons (s : List UInt8) (n x : Nat) (r : List Nat) (h : s.length < 200) (h1 : n ≤ 100000000000) : rdL s n (x :: r) = if 127 < x then rdL s (n * 128 + x % 128) r else rdL (pushT s (n * 128 + x % 128)) 0 r := by
 rw [rdL, if_neg (by omega), if_neg (by omega)]
theorem mapM_app {α β : Type} (f : α → Option β) : ∀ (l m : List α), (l ++ m).mapM f = (l.mapM f).bind fun x => (m.mapM f).map fun y => x ++ y
 | [], m => by
   rw [List.nil_append]
   cases m.mapM f <;> rfl
 | a :: l, m => by
   have ih := mapM_app f l m
   rw [List.cons_append, List.mapM_cons, List.mapM_cons, ih]
   cases f a with
   | none => rfl
   | some b =>
     cases l.mapM f with
     | none => rfl
     | some x => cases m.mapM f <;> rfl
def cellsI (l : List Nat) : List Value := l.map fun (n : Nat) => Value.int .i64 (n : Int)
def OwnN (w : World) (base : Nat) (v : Value) (l : List Nat) : Prop := w.ownsRow base 3 1 v l.length (cellsI l)
theorem info_int : (Tryz.prog.info? 3).map (fun i => (i.zero, i.size, i.bytes)) = some (some (.int .i64 0), 1, 8) := by kernel_rfl
theorem OwnN.form {w : World} {base : Nat} {v : Value} {l : List Nat} (h : OwnN w base v l) (h0 : 0 < l.length) : ∃ g c, v = .slice (some ⟨g, 0, none⟩) l.length c ∧ ∀ (i n : Nat), l[i]? = some n → w.cell? ⟨g, i, none⟩ = some (.int .i64 (n : Int)) := by
 obtain ⟨_, h2 | ⟨g, cap, cur, hv, hbs, hg, hn, hm, hs, hx⟩⟩ := h
 · omega
 · refine ⟨g, cap, hv, fun i n hi => ?_⟩
   have hil : i < l.length := (List.getElem?_eq_some_iff.1 hi).1
   rw [cell_of_row w g i cur _ _ hg]
   have h2 : (cellsI l)[i]? = some (Value.int .i64 (n : Int)) := by simp [cellsI, hi]
   rw [← hx, List.getElem?_take, if_pos (by omega)] at h2
   simpa using h2
theorem append_int {w : World} {ops : Array Oper} {rest : List Oper} {o : Oper} {a : Act} {Q : Exit → Act → World → Prop} (hgd : o.guard = none) (s x : Operand)
 (ho : o.op = .call { callee := .builtin .append, args := #[s, x], argTypes := #[192, 192] })
 (base z : Nat) (v : Value) (l : List Nat) (n : Nat) (hn : l.length = n) (hs : a.eval s = v) (hown : OwnN (w.alloc (.cells #[.int .i64 (z : Int)] 3)) base v l)
 (hx : a.eval x = .slice (some ⟨w.heap.size, 0, none⟩) 1 1) (hlen : n + 1 ≤ 2000000) (hbase : base ≤ w.heap.size)
 (h : ∀ g' c' w', OwnN w' base (.slice (some ⟨g', 0, none⟩) (n + 1) c') (l ++ [z]) → Below base (w.alloc (.cells #[.int .i64 (z : Int)] 3)) w' → (∀ b, b < (w.alloc (.cells #[.int .i64 (z : Int)] 3)).heap.size → some b ≠ v.ownBlock → w'.heap[b]? = (w.alloc (.cells #[.int .i64 (z : Int)] 3)).heap[b]?) → wpList Tryz.prog ops Q rest (a.put o.dst (.slice (some ⟨g', 0, none⟩) (n + 1) c')) w') : wpList Tryz.prog ops Q (o :: rest) a (w.alloc (.cells #[.int .i64 (z : Int)] 3)) := by
 obtain ⟨i0, hi, hz0, hz1, hz2⟩ := info_parts info_int
 subst hn
 have hb' : base ≤ (w.alloc (.cells #[.int .i64 (z : Int)] 3)).heap.size := by simp; omega
 refine wpList_append_own _ hgd s x 192 ho base 3 i0 _ 1 8 Tryz.underlying192 hi hz0 hz1 hz2 rfl (by decide) v l.length (cellsI l) hs hown ⟨w.heap.size, 0, none⟩ 1 1 [.int .i64 (z : Int)] hx rfl (news_one w _ 3) (by intro u hu; simp only [List.mem_singleton] at hu; subst hu; rfl)
  (by simp only [maxLen]; omega) (by omega) hb' fun v' w' hown' hg _ => ?_
 have ho' : OwnN w' base v' (l ++ [z]) := by
  unfold OwnN
  rw [List.length_append, show cellsI (l ++ [z]) = cellsI l ++ [.int .i64 (z : Int)] by simp [cellsI]]
  exact hown'
 obtain ⟨g', c', rfl, _⟩ := ho'.form (by simp)
 rw [List.length_append] at ho' ⊢
 exact h g' c' w' ho' ((Below.refl _ _).grown hg hb' (fun k hk => (hown.lt k hk).1)) hg.block
theorem OwnN.nil (w : World) (base : Nat) : OwnN w base (.slice none 0 0) [] := ⟨rfl, .inl ⟨rfl, rfl⟩⟩
theorem OwnN.alloc {w : World} {base : Nat} {v : Value} {l : List Nat} (h : OwnN w base v l) (o : Obj) : OwnN (w.alloc o) base v l := World.ownsRow.alloc h o
theorem OwnN.below {w w' : World} {base K : Nat} {v : Value} {l : List Nat} (h : OwnN w base v l) (hb : Below K w w') (hK : w.heap.size ≤ K) : OwnN w' base v l := by
 obtain ⟨h1, h0 | ⟨g, cap, cur, hv, hbs, hg, hn, hm, hs, hx⟩⟩ := h
 · exact ⟨h1, .inl h0⟩
 · refine ⟨h1, .inr ⟨g, cap, cur, hv, hbs, ?_, hn, hm, hs, hx⟩⟩
   rw [hb.block g (Nat.lt_of_lt_of_le (Array.getElem?_eq_some_iff.1 hg).1 hK)]
   exact hg
theorem arcV_rd (l : List UInt8) : arcV l = if (rdD l).2 = true ∧ l.length ≤ 10 then some (rdD l).1 else none := by
 unfold arcV rdD
 by_cases hb : l.length < 1 ∨ 18 < l.length ∨ (l.head? = some 48 ∧ 1 < l.length)
 · rw [if_pos hb, if_neg, if_neg (by simp)]
   intro h
   simp only [Bool.and_eq_true, decide_eq_true_eq] at h
   obtain ⟨h1, h2⟩ := h
   have hc := (canonB_iff l).1 h1
   rcases hb with hb | hb | ⟨hb, hb2⟩
   · exact hc.1 (List.eq_nil_of_length_eq_zero (by omega))
   · omega
   · rcases hc.2.2 with h3 | h3
     · omega
     · exact h3 hb
 · rw [if_neg hb]
   by_cases hd : digsL l = true
   · rw [if_pos hd]
     have hc : canonB l = true := (canonB_iff l).2 ⟨fun e => hb (.inl (by rw [e]; decide)), hd, by
      by_cases h1 : l.length = 1
      · exact .inl h1
      · exact .inr (fun e => hb (.inr (.inr ⟨e, by
         have : l.length ≠ 0 := fun e => hb (.inl (by omega))
         omega⟩)))⟩
     by_cases h10 : l.length ≤ 10
     · rw [if_pos (by rw [hc, decide_eq_true h10]; rfl), if_pos ⟨rfl, h10⟩]
     · rw [if_neg (by rw [decide_eq_false h10]; simp), if_neg (fun h => h10 h.2)]
   · rw [if_neg hd, if_neg, if_neg (by simp)]
     intro h
     simp only [Bool.and_eq_true, decide_eq_true_eq] at h
     exact hd ((canonB_iff l).1 h.1).2.1
theorem rdD_lt (l : List UInt8) : (rdD l).1 < 1000000000000000000 := by
 unfold rdD
 split
 · decide
 · split
   · rename_i h1 h2
     have h3 := natV_lt l h2
     have h4 : 10 ^ l.length ≤ 10 ^ 18 := Nat.pow_le_pow_right (by decide) (by omega)
     have h5 : (10 : Nat) ^ 18 = 1000000000000000000 := by decide
     exact Nat.lt_of_lt_of_le h3 (h5 ▸ h4)
   · decide
theorem okA_two (a b : Nat) (r : List Nat) : okA (a :: b :: r) = ((decide (a ≤ 2) && (decide (2 ≤ a) || decide (b ≤ 39))) && decide (r.length ≤ 14)) := rfl
theorem okA_one (a : Nat) : ¬ okA [a] = true := by
 show ¬ false = true
 decide
def ArcQ (l : List UInt8) (K : Nat) (e : Ending) (w : World) : Prop :=
 match arcsO l with
 | none => e = .returned (.tuple #[.slice none 0 0, .bool false])
 | some L => ∃ g c, e = .returned (.tuple #[.slice (some ⟨g, 0, none⟩) L.length c, .bool true]) ∧ OwnN w K (.slice (some ⟨g, 0, none⟩) L.length c) L
theorem ArcQ.no {l : List UInt8} {K : Nat} {w : World} (h : arcsO l = none) : ArcQ l K (.returned (.tuple #[.slice none 0 0, .bool false])) w := by
 unfold ArcQ
 rw [h]
theorem ArcQ.yes {l : List UInt8} {K g c n : Nat} {w : World} {L : List Nat} (h : arcsO l = some L) (hn : L.length = n) (ho : OwnN w K (.slice (some ⟨g, 0, none⟩) n c) L) : ArcQ l K (.returned (.tuple #[.slice (some ⟨g, 0, none⟩) n c, .bool true])) w := by
 unfold ArcQ
 rw [h]
 subst hn
 exact ⟨g, c, rfl, ho⟩
theorem arcs_none {l : List UInt8} (h : (sp 46 l).mapM arcV = none) : arcsO l = none := by
 unfold arcsO
 split
 · rw [h]; rfl
 · rfl
theorem flat_len (r : List Nat) (h : ∀ n ∈ r, n < 10000000000) : (r.flatMap sv).length ≤ 6 * r.length := by
 induction r with
 | nil => exact Nat.le_refl _
 | cons n r ih =>
   have h1 := sv_len5 n (by have := h n List.mem_cons_self; omega)
   have h2 := ih (fun m hm => h m (List.mem_cons_of_mem _ hm))
   rw [List.flatMap_cons, List.length_append, List.length_cons]
   omega
theorem flat_take (r : List Nat) (k : Nat) (h : k < r.length) : (r.take (k + 1)).flatMap sv = (r.take k).flatMap sv ++ sv r[k] := by
 rw [List.take_succ_eq_append_getElem h, List.flatMap_append]
 simp
theorem baO_size (l : List UInt8) : (baO l).size = l.length := by simp [baO, ByteArray.size]
theorem SrcO.next {w w' : World} {A : Option Addr} {c : Nat} {L : List (List UInt8)} (h : SrcO w w.heap.size A c L) (hb : Below w.heap.size w w') : SrcO w' w'.heap.size A c L := (h.below hb).more hb.size
def deO (l : List UInt8) : List UInt8 × List (List UInt8) × Bool := match descO l with | none => ([], [], false) | some q => (q.1, q.2, true)
theorem deO_none {l : List UInt8} (h : descO l = none) : deO l = ([], [], false) := by unfold deO; rw [h]
theorem deO_some {l : List UInt8} {q : List UInt8 × List (List UInt8)} (h : descO l = some q) : deO l = (q.1, q.2, true) := by unfold deO; rw [h]
end Go.Proofs.YtcbiedonmibfaaaGreatDoor.O7
namespace Go.Proofs.YtcbiedonmibfaaaGreatDoor.O7
open Go.RowKit Go.Lib
open Go.RowKit
theorem baO_hit1 (p q : List UInt8) (b : UInt8) : (baO (p ++ b :: q)).extract 0 p.length = baO p := by
 apply ByteArray.ext
 rw [ByteArray.data_extract]
 apply Array.ext'
 rw [Array.toList_extract]
 simp [baO]
theorem baO_hit2 (p q : List UInt8) (b : UInt8) (n : Nat) (hn : n = (p ++ b :: q).length) : (baO (p ++ b :: q)).extract (p.length + 1) n = baO q := by
 subst hn
 apply ByteArray.ext
 rw [ByteArray.data_extract]
 apply Array.ext'
 rw [Array.toList_extract, List.extract_eq_take_drop]
 show List.take _ (List.drop _ (p ++ b :: q)) = q
 rw [show p.length + 1 = (p ++ [b]).length by simp, show p ++ b :: q = (p ++ [b]) ++ q by simp, List.drop_left]
 exact List.take_of_length_le (by simp; omega)
set_option maxHeartbeats 800000 in
theorem lcut_miss (r : List UInt8) (b : UInt8) (h : b ∉ r) (w : World) :
 Calls Tryz.prog 160 #[.string (baO r), .string { data := #[b] }] w fun e w' => e = .returned (.tuple #[.string (baO r), .string ⟨#[]⟩, .bool false]) ∧ w' = w := by
 have CI := fun w => Tryz.stringslite_Index_one (baO r) b w
 simp only [baO_list, ix_miss h] at CI
 replace CI := Hd CI
 go_enter Tryz.func160, Tryz.ntmps160
 go_wp2_with fail
 refine (CI.out _).mono ?_
 rintro _ w2 ⟨rfl, h2⟩
 subst w2
 dsimp only []
 go_wp2_with fail
 go_returns
 exact ⟨rfl, rfl⟩
set_option maxHeartbeats 800000 in
theorem lcut_hit (p q : List UInt8) (b : UInt8) (h : b ∉ p) (hl : (p ++ b :: q).length ≤ 1000000) (w : World) :
 Calls Tryz.prog 160 #[.string (baO (p ++ b :: q)), .string { data := #[b] }] w fun e w' => e = .returned (.tuple #[.string (baO p), .string (baO q), .bool true]) ∧ Below w.heap.size w w' := by
 have CI := fun w => Tryz.stringslite_Index_one (baO (p ++ b :: q)) b w
 simp only [baO_list, ix_hit h] at CI
 obtain ⟨x, hx⟩ : ∃ x, baO (p ++ b :: q) = x := ⟨_, rfl⟩
 obtain ⟨t, ht⟩ : ∃ t : ByteArray, { data := #[b] } = t := ⟨_, rfl⟩
 have ht1 : t.size = 1 := by rw [← ht]; rfl
 have hxs : x.size = p.length + 1 + q.length := by rw [← hx, baO_size]; simp; omega
 have e1 := baO_hit1 p q b
 have e2 := baO_hit2 p q b x.size (by rw [← hx, baO_size])
 obtain ⟨k, hk⟩ : ∃ k, k = p.length := ⟨_, rfl⟩
 rw [hx, ← hk] at e1 e2
 rw [← ht1] at e2
 rw [hx, ht] at CI ⊢
 rw [← hk] at CI hxs
 have c1 : (0 : Int) ≤ (k : Int) := by omega
 have c2 : (k : Int) ≤ (x.size : Int) := by omega
 have c3 : (0 : Int) ≤ (k : Int) + (t.size : Int) := by omega
 have c4 : (k : Int) + (t.size : Int) ≤ (x.size : Int) := by omega
 have c5 : x.size ≤ 1000000 := by
  rw [← hx, baO_size]; exact hl
 have c6 : t.size ≤ 1 := by omega
 have hb := Hd (below_grow w.heap.size w (Nat.le_refl _) 1 #[])
 replace CI := Hd CI
 clear hx ht hk hxs h hl ht1
 go_enter Tryz.func160, Tryz.ntmps160
 go_wp2_with fail
 refine (CI.out _).mono ?_
 rintro _ w2 ⟨rfl, h2⟩
 subst w2
 dsimp only []
 go_wp2_with fail
 go_region
 go_wp2_with fail
 go_returns
 exact ⟨by rw [← e2]; try rfl, hb.out⟩
theorem cut_miss (r : List UInt8) (b : UInt8) (h : b ∉ r) (w : World) :
 Calls Tryz.prog 112 #[.string (baO r), .string { data := #[b] }] w fun e w' => e = .returned (.tuple #[.string (baO r), .string ⟨#[]⟩, .bool false]) ∧ w' = w := by
 have C := Hd (lcut_miss r b h w)
 go_enter Tryz.func112, Tryz.ntmps112
 go_wp2_with fail
 refine C.out.mono ?_
 rintro _ w2 ⟨rfl, h2⟩
 subst w2
 dsimp only []
 go_wp2_with fail
 go_returns
 exact ⟨rfl, rfl⟩
theorem cut_hit (p q : List UInt8) (b : UInt8) (h : b ∉ p) (hl : (p ++ b :: q).length ≤ 1000000) (w : World) :
 Calls Tryz.prog 112 #[.string (baO (p ++ b :: q)), .string { data := #[b] }] w fun e w' => e = .returned (.tuple #[.string (baO p), .string (baO q), .bool true]) ∧ Below w.heap.size w w' := by
 have C := Hd (lcut_hit p q b h hl w)
 go_enter Tryz.func112, Tryz.ntmps112
 go_wp2_with fail
 refine C.out.mono ?_
 rintro _ w2 ⟨rfl, h2⟩
 replace h2 := Hd h2
 dsimp only []
 go_wp2_with fail
 go_returns
 exact ⟨rfl, h2.out⟩
def capB (c : UInt8) : Bool := decide (65 ≤ c.toNat) && decide (c.toNat ≤ 90)
set_option maxHeartbeats 800000 in
theorem capital_any (c : UInt8) (w : World) : Calls Tryz.prog 203 #[.int .u8 (c.toNat : Int)] w fun e w' => e = .returned (.bool (capB c)) ∧ w' = w := by
 have h : Hid (capB c = (decide (65 ≤ (c.toNat : Int)) && decide ((c.toNat : Int) ≤ 90))) := Hd (by
  unfold capB
  rw [show decide (65 ≤ c.toNat) = decide (65 ≤ (c.toNat : Int)) from decide_eq_decide.2 (by omega), show decide (c.toNat ≤ 90) = decide ((c.toNat : Int) ≤ 90) from decide_eq_decide.2 (by omega)])
 go_enter Tryz.func203, Tryz.ntmps203
 go_wp2
 all_goals
  go_ret
  exact ⟨ret_boolO (by rw [h.out, Bool.eq_iff_iff]; simp; omega), rfl⟩
set_option maxHeartbeats 800000 in
theorem letter_any (c : UInt8) (w : World) : Calls Tryz.prog 199 #[.int .u8 (c.toNat : Int)] w fun e w' => e = .returned (.bool (letterB c)) ∧ w' = w := by
 have h : Hid (letterB c = ((decide (97 ≤ (c.toNat : Int)) && decide ((c.toNat : Int) ≤ 122)) || capB c)) := Hd (by
  unfold letterB capB
  rw [show decide (97 ≤ c.toNat) = decide (97 ≤ (c.toNat : Int)) from decide_eq_decide.2 (by omega), show decide (c.toNat ≤ 122) = decide ((c.toNat : Int) ≤ 122) from decide_eq_decide.2 (by omega)])
 have CC := Hd (capital_any c w)
 obtain ⟨v, hv⟩ : ∃ v, capB c = v := ⟨_, rfl⟩
 rw [hv] at CC h
 replace hv := Hd hv
 by_cases h1 : 97 ≤ (c.toNat : Int)
 · have e1 : decide (97 ≤ (c.toNat : Int)) = true := decide_eq_true h1
   by_cases h2 : (c.toNat : Int) ≤ 122
   · have e2 : decide ((c.toNat : Int) ≤ 122) = true := decide_eq_true h2
     rw [e1, e2] at h
     go_enter Tryz.func199, Tryz.ntmps199
     go_wp2_with fail
     go_returns
     exact ⟨ret_boolO (by rw [h.out]; rfl), rfl⟩
   · have e2 : decide ((c.toNat : Int) ≤ 122) = false := decide_eq_false h2
     rw [e1, e2] at h
     go_enter Tryz.func199, Tryz.ntmps199
     go_wp2_with (go_at_call 203; refine CC.out.mono ?_; rintro _ _ ⟨rfl, rfl⟩)
     go_returns
     exact ⟨ret_boolO (by rw [h.out]; rfl), rfl⟩
 · have e1 : decide (97 ≤ (c.toNat : Int)) = false := decide_eq_false h1
   rw [e1] at h
   go_enter Tryz.func199, Tryz.ntmps199
   go_wp2_with (go_at_call 203; refine CC.out.mono ?_; rintro _ _ ⟨rfl, rfl⟩)
   go_returns
   exact ⟨ret_boolO (by rw [h.out]; rfl), rfl⟩
set_option maxHeartbeats 1600000 in
theorem plain_any (s : ByteArray) (w : World) (hs : s.size ≤ 1000000) : Calls Tryz.prog 198 #[.string s] w fun e w' => e = .returned (.bool (signsB s.data.toList)) ∧ w' = w := by
 have HT : Hid (signsB s.data.toList = (s.data.toList.all signB && decide (0 < s.size))) := Hd (by unfold signsB; rw [size_listO])
 have CL := Hd (fun c => letter_any c w)
 obtain ⟨z, hz⟩ : ∃ z, s.toList = z := ⟨_, rfl⟩
 have hzz : decide (0 < s.size) = !z.isEmpty := by
  rw [← hz, ByteArray.toList_eq]
  rcases e : s.data.toList with _ | ⟨a, r⟩
  · have h1 := size_listO s
    rw [e] at h1
    rw [← h1]
    rfl
  · have h1 := size_listO s
    rw [e] at h1
    rw [← h1]
    rfl
 replace hzz := Hd hzz
 go_enter Tryz.func198, Tryz.ntmps198
 go_wp2_with fail
 go_loop [7] (fun i => ∃ k : Nat, k ≤ s.size ∧ i = .int .i64 (k : Int) ∧ Hid ((s.data.toList.take k).all signB = true)) (fun i => s.size - (intOf i).toNat)
 case atStart => exact ⟨0, Nat.zero_le _, rfl, Hd rfl⟩
 case round =>
  obtain ⟨k, hk, rfl, H⟩ := hrel
  by_cases hlt : k < s.size
  · obtain ⟨d, hd⟩ : ∃ d, d = signB s[k] := ⟨_, rfl⟩
    have H2 : (s.data.toList.take (k + 1)).all signB = d := by
     rw [take_snocO s k hlt, all_snoc, H.out, Bool.true_and, hd]
    replace H2 := Hd H2
    have H3 : Hid (d = false → s.data.toList.all signB = false) := Hd fun e => all_no _ _ k (by simpa using hlt) (by rw [get_listO s k hlt, ← hd, e])
    have C1 := Hd (CL.out s[k])
    obtain ⟨a, ha⟩ : ∃ a, a = letterB s[k] := ⟨_, rfl⟩
    have hsg : signB s[k] = (a || (decide (48 ≤ (s[k].toNat : Int)) && decide ((s[k].toNat : Int) ≤ 57)) || decide ((s[k].toNat : Int) = 45)) := by
     unfold signB
     rw [ha, show decide (48 ≤ s[k].toNat) = decide (48 ≤ (s[k].toNat : Int)) from decide_eq_decide.2 (by omega), show decide (s[k].toNat ≤ 57) = decide ((s[k].toNat : Int) ≤ 57) from decide_eq_decide.2 (by omega)]
     congr 1
     rw [Bool.eq_iff_iff]
     simp only [beq_iff_eq, decide_eq_true_eq, ← UInt8.toNat_inj]
     show s[k].toNat = 45 ↔ _
     omega
    rw [← ha] at C1
    obtain ⟨n, hn⟩ : ∃ n, n = s[k].toNat := ⟨_, rfl⟩
    have hns : ((s[k].toNat : Nat) : Int) = (n : Int) := by rw [hn]
    have hcell : s[k].toNat = n := hn.symm
    have hnb : n < 256 := by rw [hn]; exact s[k].toNat_lt
    rw [hcell] at C1 hsg
    rw [← hd] at hsg
    have i0 : (0 : Int) ≤ (k : Int) := by omega
    have i1 : (k : Int) < (s.size : Int) := by omega
    replace hd := Hd hd
    replace ha := Hd ha
    replace hn := Hd hn
    cases a
    · by_cases g1 : 48 ≤ (n : Int)
      · have f1 : ¬ ((n : Int) < 48) := by omega
        have f2 : decide ((n : Int) < 48) = false := decide_eq_false f1
        by_cases g2 : (n : Int) ≤ 57
        · have f3 : ¬ (57 < (n : Int)) := by omega
          have f4 : decide (57 < (n : Int)) = false := decide_eq_false f3
          rw [decide_eq_true g1, decide_eq_true g2] at hsg
          have hdt : d = true := by rw [hsg]; rfl
          rw [hdt] at H2
          clear hsg
          replace hdt := Hd hdt
          go_wp2_with (go_at_call 199; refine C1.out.mono ?_; rintro _ _ ⟨rfl, rfl⟩)
          go_round
          case rel => exact ⟨k + 1, by omega, by go_num, H2⟩
          case measure => simp [intOf]; omega
        · have f3 : (57 < (n : Int)) := by omega
          have f4 : decide (57 < (n : Int)) = true := decide_eq_true f3
          have f5 : ¬ ((n : Int) = 45) := by omega
          have f6 : ((n : Int) == 45) = false := by simpa using f5
          rw [decide_eq_false g2, decide_eq_false f5, Bool.and_false] at hsg
          have hdt : d = false := by rw [hsg]; rfl
          have hfin := Hd (H3.out hdt)
          clear hsg H3
          replace hdt := Hd hdt
          go_wp2_with (go_at_call 199; refine C1.out.mono ?_; rintro _ _ ⟨rfl, rfl⟩)
          go_returns
          exact ⟨ret_boolO (by rw [HT.out, hfin.out, Bool.false_and]), rfl⟩
      · have f1 : (n : Int) < 48 := by omega
        have f2 : decide ((n : Int) < 48) = true := decide_eq_true f1
        by_cases g3 : (n : Int) = 45
        · have f6 : ((n : Int) == 45) = true := by simpa using g3
          rw [decide_eq_true g3, Bool.or_true] at hsg
          rw [hsg] at H2
          have g4 := Hd g3
          have hn45 : n = 45 := by omega
          clear g3 hnb hns
          subst hn45
          replace hsg := Hd hsg
          go_wp2_with (go_at_call 199; refine C1.out.mono ?_; rintro _ _ ⟨rfl, rfl⟩)
          go_round
          case rel => exact ⟨k + 1, by omega, by go_num, H2⟩
          case measure => simp [intOf]; omega
        · have f6 : ((n : Int) == 45) = false := by simpa using g3
          rw [decide_eq_false g1, decide_eq_false g3, Bool.false_and] at hsg
          have hdt : d = false := by rw [hsg]; rfl
          have hfin := Hd (H3.out hdt)
          clear hsg H3
          replace hdt := Hd hdt
          go_wp2_with (go_at_call 199; refine C1.out.mono ?_; rintro _ _ ⟨rfl, rfl⟩)
          go_returns
          exact ⟨ret_boolO (by rw [HT.out, hfin.out, Bool.false_and]), rfl⟩
    · have hdt : d = true := by rw [hsg]; rfl
      rw [hdt] at H2
      clear hsg
      replace hdt := Hd hdt
      go_wp2_with (go_at_call 199; refine C1.out.mono ?_; rintro _ _ ⟨rfl, rfl⟩)
      go_round
      case rel => exact ⟨k + 1, by omega, by go_num, H2⟩
      case measure => simp [intOf]; omega
  · have hkk : k = s.size := by omega
    subst hkk
    have H2 : signsB s.data.toList = decide (0 < s.size) := by
     rw [HT.out]
     rw [List.take_of_length_le (by simp)] at H
     rw [H.out, Bool.true_and]
    replace H2 := Hd H2
    go_wp2_with fail
    go_returns
    exact ⟨ret_boolO (by rw [H2.out]; exact hzz.out.symm), rfl⟩
set_option maxHeartbeats 800000 in
theorem word_any (s : ByteArray) (w : World) (hs : s.size ≤ 1000000) : Calls Tryz.prog 167 #[.string s] w fun e w' => e = .returned (.bool (wordB s.data.toList)) ∧ w' = w := by
 have HT : Hid (wordB s.data.toList = (decide (1 ≤ s.size) && decide (s.size ≤ 64) && letterB (s.data.toList.headD 0) && signsB s.data.toList)) := Hd (by unfold wordB; rw [size_listO])
 have CS := Hd (plain_any s w hs)
 have hne : signsB s.data.toList = true → 1 ≤ s.size := fun h => by
  unfold signsB at h
  rw [Bool.and_eq_true, decide_eq_true_eq, size_listO] at h
  omega
 obtain ⟨b, hb⟩ : ∃ b, b = signsB s.data.toList := ⟨_, rfl⟩
 rw [← hb] at CS HT hne
 replace hb := Hd hb
 by_cases h2 : s.size ≤ 64
 · have i2 : (s.size : Int) ≤ 64 := by omega
   have i3 : decide ((s.size : Int) ≤ 64) = true := decide_eq_true i2
   cases b
   · rw [Bool.and_false] at HT
     replace hne := Hd hne
     go_enter Tryz.func167, Tryz.ntmps167
     go_wp2_with (go_at_call 198; refine CS.out.mono ?_; rintro _ _ ⟨rfl, rfl⟩)
     go_returns
     exact ⟨ret_boolO (by rw [HT.out]), rfl⟩
   · have h1 := hne rfl
     have hh := head_listO s h1
     have CL := Hd (letter_any s[0] w)
     rw [← hh] at CL
     obtain ⟨a, ha⟩ : ∃ a, a = letterB (s.data.toList.headD 0) := ⟨_, rfl⟩
     rw [← ha, hh] at CL
     rw [← ha, decide_eq_true h1, decide_eq_true h2] at HT
     have i0 : (0 : Int) < (s.size : Int) := by omega
     replace ha := Hd ha
     replace hh := Hd hh
     replace hne := Hd hne
     go_enter Tryz.func167, Tryz.ntmps167
     go_wp2_with (first | (go_at_call 198; refine CS.out.mono ?_; rintro _ _ ⟨rfl, rfl⟩) | (go_at_call 199; refine CL.out.mono ?_; rintro _ _ ⟨rfl, rfl⟩))
     go_returns
     exact ⟨ret_boolO (by rw [HT.out]; cases a <;> rfl), rfl⟩
 · have i2 : ¬ ((s.size : Int) ≤ 64) := by omega
   have i3 : decide ((s.size : Int) ≤ 64) = false := decide_eq_false i2
   rw [decide_eq_false h2, Bool.and_false, Bool.false_and, Bool.false_and] at HT
   replace hne := Hd hne
   go_enter Tryz.func167, Tryz.ntmps167
   go_wp2_with fail
   go_returns
   exact ⟨ret_boolO (by rw [HT.out]), rfl⟩
def ByB (w : World) (G : Nat) (L : List UInt8) : Prop := ∀ (j : Nat) (c : UInt8), L[j]? = some c → w.cell? ⟨G, j, none⟩ = some (.int .u8 (c.toNat : Int)) ∧ w.frozen? ⟨G, j, none⟩ = false
theorem ByB.new (w : World) (s : ByteArray) : ByB (Lib.bytesWorld w 5 s) w.heap.size s.data.toList := by
 intro j c hj
 have hlt : j < s.size := by
  have := (List.getElem?_eq_some_iff.1 hj).1
  rwa [size_listO] at this
 refine ⟨?_, ?_⟩
 · rw [Lib.bytesWorld_cell w _ s j hlt, List.getD_eq_getElem?_getD, hj]
   rfl
 · unfold World.frozen?
   rw [Lib.bytesWorld_at_new]
   have h2 : ¬ (Lib.bytesCells w 5 s).size ≤ j := by
    unfold Lib.bytesCells
    simp
    omega
   simp [h2]
theorem below_bytes (w : World) (s : ByteArray) : Below w.heap.size w (Lib.bytesWorld w 5 s) :=
 ⟨rfl, rfl, rfl, by rw [Lib.bytesWorld_size]; omega, fun k hk => Lib.bytesWorld_at_old w _ s k hk⟩
theorem ByB.set {w : World} {G : Nat} {L : List UInt8} (h : ByB w G L) (i : Nat) (hi : i < L.length) (c : UInt8) : ByB (w.setCell ⟨G, i, none⟩ (.int .u8 (c.toNat : Int))) G (L.set i c) := by
 intro j d hj
 rw [World.frozen?_setCell]
 rw [List.getElem?_set] at hj
 by_cases hij : i = j
 · subst hij
   rw [if_pos rfl, if_pos hi] at hj
   injection hj with hj
   subst hj
   obtain ⟨h1, h2⟩ := h i _ (List.getElem?_eq_getElem hi)
   exact ⟨World.cell?_setCell_same _ _ _ h1, h2⟩
 · rw [if_neg hij] at hj
   obtain ⟨h1, h2⟩ := h j d hj
   exact ⟨(World.cell?_setCell_other _ _ _ _ (by intro e; injection e with _ e; exact hij e)).trans h1, h2⟩
def lowK (l : List UInt8) (k : Nat) : List UInt8 := lowL (l.take k) ++ l.drop k
theorem lowK_len (l : List UInt8) (k : Nat) : (lowK l k).length = l.length := by
 unfold lowK lowL
 rw [List.length_append, List.length_map, ← List.length_append, List.take_append_drop]
theorem lowK_at (l : List UInt8) (k : Nat) (h : k < l.length) : (lowK l k)[k]? = some l[k] := by
 unfold lowK lowL
 rw [List.getElem?_append_right (by rw [List.length_map, List.length_take]; omega), List.getElem?_drop, List.length_map, List.length_take, Nat.min_eq_left (by omega), Nat.sub_self, Nat.add_zero, List.getElem?_eq_getElem h]
theorem lowK_succ (l : List UInt8) (k : Nat) (h : k < l.length) : lowK l (k + 1) = (lowK l k).set k (low l[k]) := by
 unfold lowK lowL
 rw [List.set_append_right _ _ (by rw [List.length_map, List.length_take]; omega), List.length_map, List.length_take, Nat.min_eq_left (by omega), Nat.sub_self, List.take_succ_eq_append_getElem h, List.map_append, List.append_assoc, List.drop_eq_getElem_cons h (i := k)]
 rfl
theorem lowK_end (l : List UInt8) : lowK l l.length = lowL l := by
 unfold lowK
 rw [List.take_length, List.drop_length, List.append_nil]
theorem lowK_zero (l : List UInt8) : lowK l 0 = l := by unfold lowK lowL; simp
set_option maxRecDepth 4000 in
set_option maxHeartbeats 1600000 in
theorem lower_any (s : ByteArray) (w : World) (hs : s.size ≤ 1000000) : Calls Tryz.prog 169 #[.string s] w fun e w' => e = .returned (.string (baO (lowL s.data.toList))) ∧ Below w.heap.size w w' := by
 obtain ⟨l, rfl⟩ : ∃ l, s = baO l := ⟨s.data.toList, rfl⟩
 rw [baO_list]
 obtain ⟨n, hn⟩ : ∃ n, n = l.length := ⟨_, rfl⟩
 have hsz : (baO l).size = n := by rw [hn, ← size_listO, baO_list]
 have cv := Lib.run_convert_string_bytes (P := Tryz.prog) w 9 40 5 (baO l) Tryz.underlying9 Tryz.underlying40 Tryz.underlying5
 have hW : ByB (Lib.bytesWorld w 5 (baO l)) w.heap.size (lowK l 0) := by rw [lowK_zero]; exact ByB.new w (baO l)
 have hBW := below_bytes w (baO l)
 have hWs : w.heap.size < (Lib.bytesWorld w 5 (baO l)).heap.size := by rw [Lib.bytesWorld_size]; omega
 obtain ⟨W, hWe⟩ : ∃ W, Lib.bytesWorld w 5 (baO l) = W := ⟨_, rfl⟩
 obtain ⟨cap, hcap⟩ : ∃ cap, grownCap w (baO l).size 0 5 = cap := ⟨_, rfl⟩
 rw [hcap, hWe, hsz] at cv
 rw [hWe] at hW hBW hWs
 rw [hsz] at hs
 obtain ⟨G, hG⟩ : ∃ G, G = w.heap.size := ⟨_, rfl⟩
 rw [← hG] at cv hW hWs
 have hGB : Hid (w.heap.size ≤ G) := Hd (by omega)
 have hend : Hid (lowK l n = lowL l) := Hd (by rw [hn]; exact lowK_end l)
 have hlen : Hid (∀ k, (lowK l k).length = n) := Hd fun k => by rw [lowK_len, hn]
 have hat : Hid (∀ k (h : k < n), (lowK l k)[k]? = some (l[k]'(by omega)) ∧ lowK l (k + 1) = (lowK l k).set k (low (l[k]'(by omega)))) := Hd fun k h => ⟨lowK_at l k (by omega), lowK_succ l k (by omega)⟩
 replace hW := Hd hW
 replace hBW := Hd hBW
 replace hWe := Hd hWe
 replace hG := Hd hG
 replace hcap := Hd hcap
 replace hsz := Hd hsz
 replace hn := Hd hn
 go_enter Tryz.func169, Tryz.ntmps169
 go_wp2_with fail
 go_loopw [10] (fun i wr => ∃ k : Nat, k ≤ n ∧ i = .int .i64 (k : Int) ∧ Hid (ByB wr G (lowK l k)) ∧ Hid (Below w.heap.size w wr)) (fun i _ => n - (intOf i).toNat)
 case atStart => exact ⟨0, Nat.zero_le _, rfl, hW, hBW⟩
 case round =>
  obtain ⟨k, hk, rfl, HC, HB⟩ := hrel
  by_cases hlt : k < n
  · obtain ⟨h1, h2⟩ := hat.out k hlt
    have hln := hlen.out k
    obtain ⟨c, hc⟩ : ∃ c, c = l[k]'(by have := hn.out; omega) := ⟨_, rfl⟩
    rw [← hc] at h1 h2
    obtain ⟨g1, g2⟩ := HC.out k c h1
    have C1 := Hd (capital_any c wr)
    have i0 : (0 : Int) ≤ (k : Int) := by omega
    have i1 : (k : Int) < (n : Int) := by omega
    have hset := ByB.set HC.out k (by omega) (low c)
    rw [← h2] at hset
    obtain ⟨d, hd⟩ : ∃ d, d = (low c).toNat := ⟨_, rfl⟩
    obtain ⟨x, hx⟩ : ∃ x, x = c.toNat := ⟨_, rfl⟩
    have hxb : x < 256 := by rw [hx]; exact c.toNat_lt
    by_cases g : 65 ≤ x ∧ x ≤ 90
    · have hv : capB c = true := by unfold capB; rw [← hx, decide_eq_true g.1, decide_eq_true g.2]; rfl
      have hdx : (x : Int) + 32 = (d : Int) := by
       rw [hd]
       unfold low
       rw [← hx, decide_eq_true g.1, decide_eq_true g.2]
       show _ = (((UInt8.ofNat (x + 32)).toNat : Nat) : Int)
       rw [UInt8.toNat_ofNat']
       omega
      have hdb : (d : Int) < 256 := by omega
      have hdb0 : (0 : Int) ≤ (d : Int) := by omega
      rw [hv] at C1
      rw [← hx] at C1 g1
      rw [← hd] at hset
      replace hset := Hd hset
      replace h1 := Hd h1
      replace h2 := Hd h2
      replace hc := Hd hc
      replace hd := Hd hd
      replace hx := Hd hx
      replace hv := Hd hv
      replace hln := Hd hln
      go_wp2_with fail
      refine C1.out.mono ?_
      rintro _ w2 ⟨rfl, e2⟩
      subst w2
      dsimp only []
      go_wp2_with fail
      go_roundw
      case rel => exact ⟨k + 1, by omega, by go_num, hset, Hd (HB.out.setCell (p := ⟨G, k, none⟩) hGB.out _)⟩
      case measure => simp [intOf]; omega
    · have hv : capB c = false := by
       unfold capB
       rw [← hx]
       by_cases g3 : 65 ≤ x
       · rw [decide_eq_false (show ¬ x ≤ 90 from fun e => g ⟨g3, e⟩), Bool.and_false]
       · rw [decide_eq_false g3, Bool.false_and]
      have hlow : low c = c := by
       have := hv
       unfold capB at this
       unfold low
       rw [this]
       rfl
      have hsame : lowK l (k + 1) = lowK l k := by
       rw [h2, hlow]
       refine List.ext_getElem? fun j => ?_
       rw [List.getElem?_set]
       by_cases hj : k = j
       · subst hj
         rw [if_pos rfl, if_pos (by rw [lowK_len]; have := hn.out; omega), h1]
       · rw [if_neg hj]
      have HC2 : Hid (ByB wr G (lowK l (k + 1))) := Hd (by rw [hsame]; exact HC.out)
      rw [hv] at C1
      rw [← hx] at C1 g1
      clear hset hsame hlow hd g
      replace h1 := Hd h1
      replace h2 := Hd h2
      replace hc := Hd hc
      replace hx := Hd hx
      replace hv := Hd hv
      replace hln := Hd hln
      go_wp2_with fail
      refine C1.out.mono ?_
      rintro _ w2 ⟨rfl, e2⟩
      subst w2
      dsimp only []
      go_wp2_with fail
      go_roundw
      case rel => exact ⟨k + 1, by omega, by go_num, HC2, HB⟩
      case measure => simp [intOf]; omega
  · have hkk : k = n := by omega
    subst hkk
    have HC2 := HC.out
    rw [hend.out] at HC2
    have hll : (lowL l).length = l.length := by rw [lowL, List.length_map]
    have cb := run_convert_bytes_back (P := Tryz.prog) wr 40 9 5 ⟨G, 0, none⟩ cap (lowL l) Tryz.underlying40 Tryz.underlying5 Tryz.underlying9 (fun j hj => by
     have := (HC2 j _ (List.getElem?_eq_getElem hj)).1
     have e0 : (⟨G, 0, none⟩ : Addr).add j = ⟨G, j, none⟩ := by unfold Addr.add; split <;> simp_all
     rw [e0]
     exact this)
    rw [hll] at cb
    replace hll := Hd hll
    clear HC2
    go_wp2_with fail
    go_returns
    exact ⟨rfl, HB.out⟩
end Go.Proofs.YtcbiedonmibfaaaGreatDoor.O7
namespace Go.Proofs.YtcbiedonmibfaaaGreatDoor.O7
open Go.RowKit Go.Lib
theorem ownO_ne {w : World} {base B : Nat} {v : Value} {l : List (List UInt8)} {o : Obj} (h : OwnO w base v l) (hb : w.heap[B]? = some o) (ho : ∀ cur fr, o ≠ .cells cur 9 fr) : some B ≠ v.ownBlock := by
 intro he
 rcases h.2 with ⟨rfl, _⟩ | ⟨g, cap, cur, rfl, _, hg, _⟩
 · simp [Value.ownBlock] at he
 · have e : B = g := by simpa [Value.ownBlock] using he
   subst e
   rw [hb] at hg
   injection hg with hg
   exact ho _ _ hg
theorem cells_ne {a b : Array Value} {t u : TypeId} {f g : Nat × Nat} (h : t ≠ u) : (Obj.cells a t f) ≠ .cells b u g := fun e => h (by cases e; rfl)
theorem append_strsK {w : World} {ops : Array Oper} {rest : List Oper} {o : Oper} {a : Act} {Q : Exit → Act → World → Prop} (hgd : o.guard = none) (s x : Operand)
 (ho : o.op = .call { callee := .builtin .append, args := #[s, x], argTypes := #[23, 23] })
 (base : Nat) (p : List UInt8) (v : Value) (l : List (List UInt8)) (n : Nat) (hn : l.length = n) (hs : a.eval s = v) (hown : OwnO (w.alloc (.cells #[.string (baO p)] 9)) base v l)
 (hx : a.eval x = .slice (some ⟨w.heap.size, 0, none⟩) 1 1) (hlen : n + 1 ≤ 2000000) (hbase : base ≤ w.heap.size)
 (h : ∀ g' c' w', OwnO w' base (.slice (some ⟨g', 0, none⟩) (n + 1) c') (l ++ [p]) → w.grownBy w' v.ownBlock → Below base w w' → wpList Tryz.prog ops Q rest (a.put o.dst (.slice (some ⟨g', 0, none⟩) (n + 1) c')) w') : wpList Tryz.prog ops Q (o :: rest) a (w.alloc (.cells #[.string (baO p)] 9)) := by
 obtain ⟨i0, hi, hz0, hz1, hz2⟩ := info_parts info_str
 subst hn
 have hb' : base ≤ (w.alloc (.cells #[.string (baO p)] 9)).heap.size := by simp; omega
 refine wpList_append_own _ hgd s x 23 ho base 9 i0 _ 1 16 Tryz.underlying23 hi hz0 hz1 hz2 rfl (by decide) v l.length (cellsO l) hs hown ⟨w.heap.size, 0, none⟩ 1 1 [.string (baO p)] hx rfl (news_one w _ 9) (by intro u hu; simp only [List.mem_singleton] at hu; subst hu; rfl)
  (by simp only [maxLen]; omega) (by omega) hb' fun v' w' hown' hg _ => ?_
 have ho' : OwnO w' base v' (l ++ [p]) := by
  unfold OwnO
  rw [List.length_append, show cellsO (l ++ [p]) = cellsO l ++ [.string (baO p)] by simp [cellsO]]
  exact hown'
 rcases ho'.form with ⟨_, h2⟩ | ⟨g', c', rfl, _⟩
 · exact absurd h2 (by simp)
 · rw [List.length_append] at ho' ⊢
   have hg0 : w.grownBy (w.alloc (.cells #[.string (baO p)] 9)) v.ownBlock := World.grownBy_alloc w _ _
   exact h g' c' w' ho' (hg0.trans hg) (((Below.refl _ _).alloc hbase _).grown hg hb' (fun k hk => (hown.lt k hk).1))
def BoxS (w : World) (Bm Bo base : Nat) (D : List (List UInt8)) : Prop :=
 ∃ (v : Value) (mb : Nat) (DD : DataW Unit), w.heap[Bo]? = some (.cells #[v] 23 (0, 0)) ∧ w.heap[Bm]? = some (.cells #[.map (some mb)] 276 (0, 0)) ∧ base ≤ Bo ∧ base ≤ Bm ∧ base ≤ mb ∧
  OwnO w base v D ∧ w.ownsMap Tryz.prog 9 unitElem mb D.length DD ∧ Maps.IsMap DD ∧ ∀ x : List UInt8, Maps.has DD (.string x) = decide (x ∈ D)
def SeeS (p : List UInt8) (D : List (List UInt8)) (v : Bool) (w : World) (Bm Bo base : Nat) : Prop :=
 (v = true ∧ signsB p = true ∧ BoxS w Bm Bo base (addO D (lowL p))) ∨ (v = false ∧ signsB p = false)
theorem key_str : Maps.Keyed Tryz.prog 9 := Maps.string_keyed Tryz.underlying9
theorem zero_unit (w : World) : (zeroValue 100).run Tryz.prog w = .ok (.agg #[]) w := by kernel_rfl
set_option maxRecDepth 4000 in
set_option maxHeartbeats 1600000 in
theorem seeOpt (p : List UInt8) (Bm Bo base : Nat) (D : List (List UInt8)) (w : World) (hB : BoxS w Bm Bo base D) (hD : D.length ≤ 9500) (hp : p.length ≤ 9500) (hbase : base ≤ w.heap.size) :
 Calls Tryz.prog 201 #[.string (baO p), .pointer (some ⟨Bm, 0, none⟩), .pointer (some ⟨Bo, 0, none⟩)] w fun e w' => ∃ v, e = .returned (.bool v) ∧ SeeS p D v w' Bm Bo base ∧ Below base w w' := by
 obtain ⟨v0, mb, DD, b1, b2, b3, b4, b5, ho, hm, hmap, hhas⟩ := hB
 have CP := Hd (plain_any (baO p) w (by rw [baO_size]; omega))
 rw [baO_list] at CP
 cases hsg : signsB p with
 | false =>
   rw [hsg] at CP
   replace hsg := Hd hsg
   go_enter Tryz.func201, Tryz.ntmps201
   go_wp2_with fail
   refine CP.out.mono ?_
   rintro _ w2 ⟨rfl, rfl⟩
   dsimp only []
   go_wp2_with fail
   go_returns
   exact ⟨false, rfl, .inr ⟨rfl, hsg.out⟩, Below.refl _ _⟩
 | true =>
   rw [hsg] at CP
   have CL := Hd (lower_any (baO p) w (by rw [baO_size]; omega))
   rw [baO_list] at CL
   replace hsg := Hd hsg
   go_enter Tryz.func201, Tryz.ntmps201
   go_wp2_with fail
   refine CP.out.mono ?_
   rintro _ w2 ⟨rfl, rfl⟩
   dsimp only []
   go_wp2_with fail
   refine CL.out.mono ?_
   rintro _ w3 ⟨rfl, h3⟩
   obtain ⟨X, hX⟩ : ∃ X, X = lowL p := ⟨_, rfl⟩
   rw [← hX]
   have hXl : X.length ≤ 9500 := by rw [hX, lowL_len]; exact hp
   have hkey := WideMaps.keyOf_string_mk Tryz.underlying9 (s := baO X) (by rw [baO_size]; unfold maxLen; omega)
   rw [baO_list] at hkey
   have d2 := (h3.block Bm (Array.getElem?_eq_some_iff.1 b2).1).trans b2
   have d1 := (h3.block Bo (Array.getElem?_eq_some_iff.1 b1).1).trans b1
   have c2 := cell_of_one d2
   have hm3 : w3.ownsMap Tryz.prog 9 unitElem mb D.length DD := hm.kept (row := none) ⟨h3.os, h3.tape, h3.output, h3.size, fun k hk _ => h3.block k hk⟩ (by simp)
   have ho3 : OwnO w3 base v0 D := ho.below h3 (Nat.le_refl _)
   have hb3 : Below base w2 w3 := h3.mono hbase
   have hz3 : base ≤ w3.heap.size := Nat.le_trans hbase h3.size
   have hh := hhas X
   replace d1 := Hd d1
   replace d2 := Hd d2
   replace ho3 := Hd ho3
   replace hm3 := Hd hm3
   replace hb3 := Hd hb3
   replace hX := Hd hX
   replace b1 := Hd b1
   replace b2 := Hd b2
   clear ho hm h3
   by_cases hmem : X ∈ D
   · rw [decide_eq_true hmem] at hh
     have hadd : addO D (lowL p) = D := by rw [← hX.out]; exact if_pos hmem
     replace hadd := Hd hadd
     dsimp only []
     go_wp2_with (at_lookup; refine wpList_lookup_own_unit _ rfl _ _ 276 rfl 9 100 key_str Tryz.underlying276 (zero_unit _) mb D.length DD rfl hm3.out _ _ rfl hkey ?_; rw [hh])
     go_returns
     exact ⟨true, rfl, .inl ⟨rfl, hsg.out, by
      rw [hadd.out]
      exact ⟨v0, mb, DD, (Below.heap_alloc w3 _ _ (Array.getElem?_eq_some_iff.1 d1.out).1).trans d1.out, (Below.heap_alloc w3 _ _ (Array.getElem?_eq_some_iff.1 d2.out).1).trans d2.out, b3, b4, b5, ho3.out.alloc _, hm3.out.alloc _, hmap, hhas⟩⟩, hb3.out.alloc hz3 _⟩
   · rw [decide_eq_false hmem] at hh
     have hadd : addO D (lowL p) = D ++ [X] := by rw [← hX.out]; exact if_neg hmem
     replace hadd := Hd hadd
     obtain ⟨g3, hg3⟩ : ∃ g3, g3 = w3.heap.size := ⟨_, rfl⟩
     have q1 : (w3.alloc (.cells #[] 100)).heap[Bo]? = some (.cells #[v0] 23 (0, 0)) := (Below.heap_alloc w3 _ _ (Array.getElem?_eq_some_iff.1 d1.out).1).trans d1.out
     have q2 : (w3.alloc (.cells #[] 100)).heap[Bm]? = some (.cells #[.map (some mb)] 276 (0, 0)) := (Below.heap_alloc w3 _ _ (Array.getElem?_eq_some_iff.1 d2.out).1).trans d2.out
     have q3 := hm3.out.alloc (.cells #[] 100)
     have q4 := ho3.out.alloc (.cells #[] 100)
     have q5 := hb3.out.alloc hz3 (.cells #[] 100)
     have q6 : base ≤ (w3.alloc (.cells #[] 100)).heap.size := by simp; omega
     have n1 : ∀ W : World, W.ownsMap Tryz.prog 9 unitElem mb D.length DD → ∀ k v t, W.heap[k]? = some (.cells #[v] t (0, 0)) → k ≠ mb := by
      rintro W ⟨es, cl, h1, _⟩ k v t h2 rfl
      rw [h1] at h2
      injection h2 with h2
      cases h2
     have n2 := n1 _ q3 _ _ _ q1
     have n3 := n1 _ q3 _ _ _ q2
     have n4 : Bm ≠ Bo := by
      intro e
      subst e
      rw [q1] at q2
      injection q2 with q2
      injection q2 with _ q2 _
      exact absurd q2 (by decide)
     have n5 : v0.ownBlock = none ∨ v0.ownBlock ≠ some mb := by
      right
      intro e
      obtain ⟨es, cl, h1, _⟩ := q3
      exact ownO_ne q4 h1 (fun _ _ h => by cases h) e.symm
     have c2' := cell_of_one q2
     replace q1 := Hd q1
     replace q2 := Hd q2
     replace q3 := Hd q3
     replace q4 := Hd q4
     replace q5 := Hd q5
     replace n1 := Hd n1
     replace hg3 := Hd hg3
     obtain ⟨m, hm⟩ : ∃ m, D.length = m := ⟨_, rfl⟩
     obtain ⟨A0, c0, hv0⟩ := show ∃ A0 c0, v0 = .slice A0 m c0 by
      rcases ho3.out.form with ⟨h1, h2⟩ | ⟨g, c, h1, _⟩
      · exact ⟨none, 0, by rw [h1, ← hm, h2]; rfl⟩
      · exact ⟨_, _, by rw [h1, hm]⟩
     subst hv0
     rw [hm] at hD
     replace hm := Hd hm
     dsimp only []
     go_wp2_with (first
      | (at_lookup; refine wpList_lookup_own_unit _ rfl _ _ 276 rfl 9 100 key_str Tryz.underlying276 (zero_unit _) mb D.length DD rfl hm3.out _ _ rfl hkey ?_; rw [hh])
      | (at_mapUpdate; refine wpList_mapUpdate_in _ rfl _ _ _ 276 rfl 9 100 key_str Tryz.underlying276 unitElem mb D.length DD rfl q3.out (by rw [hm.out]; unfold maxLen; omega) _ _ (Lit.string X) rfl rfl hkey (.agg []) [] unitElem_mk ?_; intro w5 hm5 ht5
         have r1 := ((ht5.grown.block Bo (Array.getElem?_eq_some_iff.1 q1.out).1 (by simpa using n2)).trans q1.out)
         have r2 := ((ht5.grown.block Bm (Array.getElem?_eq_some_iff.1 q2.out).1 (by simpa using n3)).trans q2.out)
         have r4 : OwnO w5 base _ D := World.ownsRow.kept q4.out ht5.grown n5
         have r5 := q5.out.grown ht5.grown q6 (fun k hk => by injection hk with hk; omega)
         have r6 := r5.size
         have rc := cell_of_one r1
         have rf := free_of_one r1
         replace r1 := Hd r1
         replace r2 := Hd r2
         replace r4 := Hd r4
         replace r5 := Hd r5
         replace hm5 := Hd hm5
         clear ht5)
      | (at_builtin; (refine append_strsK rfl (.tmp 24) (.tmp 26) rfl base X _ D m hm.out rfl (r4.out.alloc _) rfl (by omega) (by omega) ?_; intro g7 c7 w7 ho7 hg7 hb7; have s1 := (hg7.block Bo (Array.getElem?_eq_some_iff.1 r1.out).1 (ownO_ne r4.out r1.out (fun _ _ => cells_ne (by decide)))).trans r1.out; have s2 := (hg7.block Bm (Array.getElem?_eq_some_iff.1 r2.out).1 (ownO_ne r4.out r2.out (fun _ _ => cells_ne (by decide)))).trans r2.out; have s3 := hm5.out.kept hg7 (by obtain ⟨es, cl, h1, _⟩ := hm5.out; exact ownO_ne r4.out h1 (fun _ _ h => by cases h)); have s5 := r5.out.trans hb7; have sc := cell_of_one s1; have sf := free_of_one s1; replace s1 := Hd s1; replace s2 := Hd s2; replace s3 := Hd s3; replace s5 := Hd s5; replace ho7 := Hd ho7; clear hg7 hb7)))
     go_returns
     refine ⟨true, rfl, .inl ⟨rfl, hsg.out, ?_⟩, s5.out.setCell b3 _⟩
     rw [hadd.out]
     refine ⟨_, mb, DD.put (.string X) (.agg []), one_setCell s1.out, (Below.heap_setCell w7 _ _ Bm n4).trans s2.out, b3, b4, b5, ownsRow_setCell_other (by have := ho7.out; rwa [show m = D.length from hm.out.symm] at this ⊢) (fun e => ownO_ne ho7.out s1.out (fun _ _ => cells_ne (by decide)) e.symm) _, ?_, ?_, ?_⟩
     · have := s3.out.setCell (a := ⟨Bo, 0, none⟩) (fun e => n2 e.symm) (.slice (some ⟨g7, 0, none⟩) (m + 1) c7)
       rw [List.length_append, List.length_singleton]
       exact this
     · obtain ⟨es, rfl⟩ := hmap
       exact ⟨_, rfl⟩
     · intro x
       by_cases hx : x = X
       · subst hx
         rw [Maps.has_put_same (k := .string x) hmap (by simp [WideAt.IsKeyLit])]
         simp
       · rw [Maps.has_put_other (by simpa using hx), hhas]
         simp [hx]
end Go.Proofs.YtcbiedonmibfaaaGreatDoor.O7
namespace Go.Proofs.YtcbiedonmibfaaaGreatDoor.O7
open Go.RowKit Go.Lib
def BoxN (w : World) (Bo base : Nat) (M : List Nat) : Prop := ∃ v, w.heap[Bo]? = some (.cells #[v] 192 (0, 0)) ∧ OwnN w base v M ∧ base ≤ Bo
theorem ownN_ne {w : World} {base Bo : Nat} {v u : Value} {l : List Nat} (h : OwnN w base v l) (hb : w.heap[Bo]? = some (.cells #[u] 192 (0, 0))) : some Bo ≠ v.ownBlock := by
 intro he
 rcases h.2 with ⟨rfl, _⟩ | ⟨g, cap, cur, rfl, _, hg, _⟩
 · simp [Value.ownBlock] at he
 · have e : Bo = g := by simpa [Value.ownBlock] using he
   subst e
   rw [hb] at hg
   injection hg with hg
   injection hg with _ ht
   exact absurd ht (by decide)
theorem BoxN.step {w w1 : World} {Bo base g cap n : Nat} {v : Value} {l : List Nat} {o : Obj} {x : Nat} (hb : w.heap[Bo]? = some (.cells #[v] 192 (0, 0))) (ho : OwnN w base v l) (hB : base ≤ Bo)
 (h1 : OwnN w1 base (.slice (some ⟨g, 0, none⟩) n cap) (l ++ [x])) (hg : Below base (w.alloc o) w1) (hk : ∀ b, b < (w.alloc o).heap.size → some b ≠ v.ownBlock → w1.heap[b]? = (w.alloc o).heap[b]?) :
 BoxN (w1.setCell ⟨Bo, 0, none⟩ (.slice (some ⟨g, 0, none⟩) n cap)) Bo base (l ++ [x]) ∧ Below base w (w1.setCell ⟨Bo, 0, none⟩ (.slice (some ⟨g, 0, none⟩) n cap)) := by
 have hlt : Bo < w.heap.size := (Array.getElem?_eq_some_iff.1 hb).1
 have hb1 : w1.heap[Bo]? = some (.cells #[v] 192 (0, 0)) := by
  rw [hk Bo (by simp; omega) (ownN_ne ho hb), heap_alloc_old w o hlt, hb]
 have hne : (Value.slice (some ⟨g, 0, none⟩) n cap).ownBlock ≠ some Bo := fun e => ownN_ne h1 hb1 e.symm
 have hsz : base ≤ w.heap.size := by omega
 exact ⟨⟨_, one_setCell hb1, ownsRow_setCell_other h1 hne _, hB⟩, (((Below.refl _ _).alloc hsz o).trans hg).setCell hB _⟩
def SeeQ (p : List UInt8) (M : List Nat) (v : Bool) (w : World) (Bo base : Nat) : Prop :=
 (v = true ∧ M.length ≠ 16 ∧ ∃ n, arcV p = some n ∧ BoxN w Bo base (M ++ [n])) ∨ (v = false ∧ (arcV p = none ∨ M.length = 16))
set_option maxRecDepth 4000 in
set_option maxHeartbeats 1600000 in
theorem seeArc (p : List UInt8) (Bo base : Nat) (M : List Nat) (w : World) (hB : BoxN w Bo base M) (hM : M.length ≤ 16) (hp : p.length ≤ 9500) :
 Calls Tryz.prog 226 #[.string (baO p), .pointer (some ⟨Bo, 0, none⟩)] w fun e w' => ∃ v, e = .returned (.bool v) ∧ SeeQ p M v w' Bo base ∧ Below base w w' := by
 obtain ⟨v0, hb, ho, hbase⟩ := hB
 have hlt : Bo < w.heap.size := (Array.getElem?_eq_some_iff.1 hb).1
 have CR := w_readDigits (baO p) w (by rw [baO_size]; unfold maxLen; omega)
 rw [baO_list] at CR
 have hq := rdD_lt p
 have hav := arcV_rd p
 obtain ⟨z, hz⟩ : ∃ z, (rdD p).1 = z := ⟨_, rfl⟩
 obtain ⟨d, hd⟩ : ∃ d, (rdD p).2 = d := ⟨_, rfl⟩
 have ht : tupD (rdD p) = .tuple #[.int .i64 (z : Int), .bool d] := by unfold tupD; rw [hz, hd]
 rw [ht] at CR
 rw [hz] at hq
 have hpl : p.length = (baO p).size := (baO_size p).symm
 rw [hz, hd, hpl] at hav
 obtain ⟨m, hm⟩ : ∃ m, m = M.length := ⟨_, rfl⟩
 obtain ⟨A0, c0, hv0⟩ : ∃ A0 c0, v0 = .slice A0 m c0 := by
  rcases ho.2 with ⟨h1, h2⟩ | ⟨g, cap, cur, h1, _⟩
  · exact ⟨none, 0, by rw [h1, hm, h2]⟩
  · exact ⟨_, _, by rw [h1, hm]⟩
 subst hv0
 have hsz0 : base ≤ w.heap.size := by omega
 rw [← hm] at hM
 replace hz := Hd hz
 replace hd := Hd hd
 replace ht := Hd ht
 replace hpl := Hd hpl
 replace CR := Hd CR
 cases d
 · rw [if_neg (by simp)] at hav
   replace hav := Hd hav
   replace hm := Hd hm
   replace hb := Hd hb
   go_enter Tryz.func226, Tryz.ntmps226
   go_wp2_with fail
   refine CR.out.mono ?_
   rintro _ w2 ⟨rfl, h2⟩
   replace h2 := Hd h2
   dsimp only []
   go_wp2_with fail
   go_returns
   exact ⟨false, rfl, .inr ⟨rfl, .inl hav.out⟩, h2.out.mono hsz0⟩
 · by_cases h10 : (baO p).size ≤ 10
   · rw [if_pos ⟨rfl, h10⟩] at hav
     have j1 : ¬ ((10 : Int) < ((baO p).size : Int)) := by omega
     have j2 : decide ((10 : Int) < ((baO p).size : Int)) = false := decide_eq_false j1
     replace hav := Hd hav
     by_cases h16 : m = 16
     · subst h16
       replace hb := Hd hb
       replace hm := Hd hm
       go_enter Tryz.func226, Tryz.ntmps226
       go_wp2_with fail
       refine CR.out.mono ?_
       rintro _ w2 ⟨rfl, h2⟩
       have hb2 := (h2.block Bo hlt).trans hb.out
       have hc2 := cell_of_one hb2
       replace hb2 := Hd hb2
       replace h2 := Hd h2
       dsimp only []
       go_wp2_with fail
       go_returns
       exact ⟨false, rfl, .inr ⟨rfl, .inr hm.out.symm⟩, h2.out.mono hsz0⟩
     · have k1 : decide ((m : Int) = 16) = false := decide_eq_false (by omega)
       have k2 : ¬ ((m : Int) = 16) := by omega
       have k3 : ((m : Int) == 16) = false := by simpa using k2
       replace hb := Hd hb
       replace hm := Hd hm
       go_enter Tryz.func226, Tryz.ntmps226
       go_wp2_with fail
       refine CR.out.mono ?_
       rintro _ w2 ⟨rfl, h2⟩
       have hb2 := (h2.block Bo hlt).trans hb.out
       have ho2 : OwnN w2 base (.slice A0 m c0) M := ho.below h2 (Nat.le_refl _)
       have hc2 := cell_of_one hb2
       have hs2 := h2.size
       replace hb2 := Hd hb2
       replace h2 := Hd h2
       replace ho2 := Hd ho2
       dsimp only []
       go_wp2_with (at_builtin; refine append_int rfl (.tmp 23) (.tmp 25) rfl base z _ M m hm.out.symm rfl (ho2.out.alloc _) rfl (by omega) (by omega) ?_; intro g' c' w3 ho3 hb3 hk3; have hb9 := (hk3 Bo (by simp; omega) (ownN_ne ho2.out hb2.out)).trans ((heap_alloc_old w2 _ (by omega)).trans hb2.out); have hc9 := cell_of_one hb9; have hf9 := free_of_one hb9; have R := Hd (BoxN.step hb2.out ho2.out hbase ho3 hb3 hk3); clear ho3 hb3 hk3; replace hb9 := Hd hb9)
       go_returns
       exact ⟨true, rfl, .inl ⟨rfl, by rw [← hm.out]; exact h16, z, hav.out, R.out.1⟩, (h2.out.mono hsz0).trans R.out.2⟩
   · rw [if_neg (fun h => h10 h.2)] at hav
     have j1 : (10 : Int) < ((baO p).size : Int) := by omega
     have j2 : decide ((10 : Int) < ((baO p).size : Int)) = true := decide_eq_true j1
     replace hav := Hd hav
     replace hm := Hd hm
     replace hb := Hd hb
     go_enter Tryz.func226, Tryz.ntmps226
     go_wp2_with fail
     refine CR.out.mono ?_
     rintro _ w2 ⟨rfl, h2⟩
     replace h2 := Hd h2
     dsimp only []
     go_wp2_with fail
     go_returns
     exact ⟨false, rfl, .inr ⟨rfl, .inl hav.out⟩, h2.out.mono hsz0⟩
def szO : Value → Nat
 | .string x => x.size
 | _ => 0
theorem mapM_one (M : List Nat) (d : List (List UInt8)) (p : List UInt8) (n : Nat) (h : d.mapM arcV = some M) (h1 : arcV p = some n) : (d ++ [p]).mapM arcV = some (M ++ [n]) := by
 rw [mapM_app, h]
 show ([p].mapM arcV).map (fun y => M ++ y) = _
 rw [List.mapM_cons, h1]
 rfl
theorem arcs_stop {l p : List UInt8} {d t : List (List UInt8)} {M : List Nat} (hd : sp 46 l = d ++ p :: t) (hM : d.mapM arcV = some M) (h : arcV p = none ∨ M.length = 16) : arcsO l = none := by
 cases hs : (sp 46 l).mapM arcV with
 | none => exact arcs_none hs
 | some M' =>
   obtain ⟨h1, h2⟩ := mapM_get arcV _ _ hs
   obtain ⟨h3, _⟩ := mapM_get arcV _ _ hM
   rcases h with h | h
   · exfalso
     have h4 : d.length < (sp 46 l).length := by rw [hd]; simp
     have h5 := h2 d.length h4 (by omega)
     have h6 : (sp 46 l)[d.length] = p := by simp [hd]
     rw [h6, h] at h5
     cases h5
   · refine arcs_many hs ?_
     rw [← h1, hd, List.length_append, List.length_cons]
     omega
def VisQ (l : List UInt8) (v : Bool) (w : World) (Bo base : Nat) : Prop :=
 (v = true ∧ ∃ M, (sp 46 l).mapM arcV = some M ∧ M.length ≤ 16 ∧ BoxN w Bo base M) ∨ (v = false ∧ arcsO l = none)
set_option maxRecDepth 4000 in
set_option maxHeartbeats 1600000 in
theorem visitArcs (l : List UInt8) (Bo base : Nat) (w : World) (hl : l.length ≤ 9500) (hB : BoxN w Bo base []) :
 Calls Tryz.prog 200 #[.string (baO l), .string { data := #[46] }, .func (.func 226) #[] #[.pointer (some ⟨Bo, 0, none⟩)]] w fun e w' => ∃ v, e = .returned (.bool v) ∧ VisQ l v w' Bo base ∧ Below base w w' := by
 have hlt : Bo < w.heap.size := by
  obtain ⟨v, h1, _⟩ := hB
  exact (Array.getElem?_eq_some_iff.1 h1).1
 have hbs : base ≤ w.heap.size := by
  obtain ⟨v, h1, _, h3⟩ := hB
  omega
 replace hB := Hd hB
 go_enter Tryz.func200, Tryz.ntmps200
 go_wp2_with fail
 go_loopw [0] (fun sv wr => ∃ (d : List (List UInt8)) (r : List UInt8) (M : List Nat), sv = .string (baO r) ∧ r.length ≤ 9500 ∧ Hid (sp 46 l = d ++ sp 46 r) ∧ Hid (d.mapM arcV = some M) ∧ M.length ≤ 16 ∧ Hid (BoxN wr Bo base M) ∧ Hid (Below base w wr)) (fun sv _ => szO sv)
 case atStart => exact ⟨[], l, [], rfl, hl, Hd rfl, Hd rfl, by simp, hB, Hd (Below.refl _ _)⟩
 case round =>
  obtain ⟨d, r, M, rfl, hr, HS, HM, h16, HBx, HB⟩ := hrel
  have hsz := HB.out.size
  rcases part_cases 46 r with ⟨hm, hs⟩ | ⟨p, q, hr2, hm, hs⟩
  · have C1 := Hd (cut_miss r 46 hm wr)
    have C2 := Hd (seeArc r Bo base M wr HBx.out h16 hr)
    have HS2 := HS.out
    rw [hs] at HS2
    have hst := fun h => arcs_stop (t := []) HS2 HM.out h
    have hok := fun n (h1 : arcV r = some n) => (congrArg (List.mapM arcV) HS2).trans (mapM_one M d r n HM.out h1)
    replace hst := Hd hst
    replace hok := Hd hok
    replace hs := Hd hs
    replace HS2 := Hd HS2
    go_wp2_with fail
    refine C1.out.mono ?_
    rintro _ w2 ⟨rfl, h2⟩
    subst w2
    dsimp only []
    go_wp2_with fail
    refine C2.out.mono ?_
    rintro _ w2 ⟨v, rfl, hq, hb2⟩
    replace hb2 := Hd (HB.out.trans hb2)
    rcases hq with ⟨rfl, h1, n, h2, h3⟩ | ⟨rfl, h1⟩
    · have h4 : (M ++ [n]).length ≤ 16 := by
       rw [List.length_append, List.length_singleton]
       omega
      have hfin : Hid (VisQ l true w2 Bo base) := Hd (.inl ⟨rfl, M ++ [n], hok.out n h2, h4, h3⟩)
      clear h1 h2 h3 h4
      dsimp only []
      go_wp2_with fail
      go_returns
      exact ⟨true, rfl, hfin.out, hb2.out⟩
    · have hfin : Hid (VisQ l false w2 Bo base) := Hd (.inr ⟨rfl, hst.out h1⟩)
      clear h1
      dsimp only []
      go_wp2_with fail
      go_returns
      exact ⟨false, rfl, hfin.out, hb2.out⟩
  · have hrl : p.length + 1 + q.length ≤ 9500 := by
     rw [hr2] at hr
     simp at hr
     omega
    have hss : szO (.string (baO q)) < szO (.string (baO r)) := by
     show (baO q).size < (baO r).size
     rw [baO_size, baO_size, hr2]
     simp
     omega
    have C1 : Hid (Calls Tryz.prog 112 #[.string (baO r), .string { data := #[46] }] wr fun e w' => e = .returned (.tuple #[.string (baO p), .string (baO q), .bool true]) ∧ Below wr.heap.size wr w') := Hd (by
     rw [hr2] at hr ⊢
     exact cut_hit p q 46 hm (by omega) wr)
    have HS2 := HS.out
    rw [hs] at HS2
    have hst := fun h => arcs_stop HS2 HM.out h
    have hok := fun n (h1 : arcV p = some n) => mapM_one M d p n HM.out h1
    have HS3 : sp 46 l = (d ++ [p]) ++ sp 46 q := by rw [HS2]; simp
    replace hst := Hd hst
    replace hok := Hd hok
    replace hs := Hd hs
    replace hr2 := Hd hr2
    replace HS2 := Hd HS2
    replace HS3 := Hd HS3
    replace hss := Hd hss
    go_wp2_with fail
    refine C1.out.mono ?_
    rintro _ w1 ⟨rfl, h1⟩
    have HBx1 : BoxN w1 Bo base M := by
     obtain ⟨v, g1, g2, g3⟩ := HBx.out
     exact ⟨v, (h1.block Bo (Nat.lt_of_lt_of_le hlt hsz)).trans g1, g2.below h1 (Nat.le_refl _), g3⟩
    have C2 := Hd (seeArc p Bo base M w1 HBx1 h16 (by omega))
    have HB1 := Hd (HB.out.trans (h1.mono (Nat.le_trans hbs hsz)))
    clear HBx1 h1
    dsimp only []
    go_wp2_with fail
    refine C2.out.mono ?_
    rintro _ w2 ⟨v, rfl, hq, hb2⟩
    replace hb2 := Hd (HB1.out.trans hb2)
    rcases hq with ⟨rfl, h1, n, h2, h3⟩ | ⟨rfl, h1⟩
    · have h4 : (M ++ [n]).length ≤ 16 := by
       rw [List.length_append, List.length_singleton]
       omega
      have h5 := Hd (hok.out n h2)
      replace h3 := Hd h3
      clear h1 h2
      dsimp only []
      go_wp2_with fail
      go_roundw
      case rel => exact ⟨d ++ [p], q, M ++ [n], rfl, by omega, HS3, h5, h4, h3, hb2⟩
      case measure => exact hss.out
    · have hfin : Hid (VisQ l false w2 Bo base) := Hd (.inr ⟨rfl, hst.out h1⟩)
      clear h1
      dsimp only []
      go_wp2_with fail
      go_returns
      exact ⟨false, rfl, hfin.out, hb2.out⟩
theorem box_new (w : World) : BoxN (w.alloc (.cells #[.slice none 0 0] 192)) w.heap.size w.heap.size [] := ⟨_, heap_alloc_new w _, OwnN.nil _ _, Nat.le_refl _⟩
set_option maxRecDepth 8000 in
set_option maxHeartbeats 2000000 in
theorem arcs_any (s : ByteArray) (w : World) (hs : s.size ≤ 9500) :
 Calls Tryz.prog 197 #[.string s] w fun e w' => ArcQ s.data.toList w.heap.size e w' ∧ Below w.heap.size w w' := by
 obtain ⟨l, rfl⟩ : ∃ l, s = baO l := ⟨s.data.toList, rfl⟩
 rw [baO_list]
 rw [baO_size] at hs
 have CV := visitArcs l w.heap.size w.heap.size (w.alloc (.cells #[.slice none 0 0] 192)) hs (box_new w)
 have hal : Below w.heap.size w (w.alloc (.cells #[.slice none 0 0] 192)) := (Below.refl _ _).alloc (Nat.le_refl _) _
 replace CV := Hd CV
 replace hal := Hd hal
 go_enter Tryz.func197, Tryz.ntmps197
 go_wp2_with fail
 refine CV.out.mono ?_
 rintro _ w2 ⟨v, rfl, hq, hb2⟩
 replace hb2 := Hd (hal.out.trans hb2)
 rcases hq with ⟨rfl, M, h1, h2, hB⟩ | ⟨rfl, h1⟩
 · obtain ⟨u, hbk, ho, _⟩ := hB
   have hc := cell_of_one hbk
   have hfin := arcs_few h1 h2
   have hne : M ≠ [] := by
    intro e
    have h3 := (mapM_get arcV _ _ h1).1
    rw [e] at h3
    exact sp_ne 46 l (List.eq_nil_of_length_eq_zero h3)
   obtain ⟨g, c, rfl, hcells⟩ := ho.form (List.length_pos_iff.2 hne)
   replace ho := Hd ho
   replace h1 := Hd h1
   obtain ⟨m, hm⟩ : ∃ m, M.length = m := ⟨_, rfl⟩
   rw [hm] at hc ho h2
   have c0 : (M.length = 0) = False := by simp [hne]
   rcases M with _ | ⟨a, _ | ⟨b, r⟩⟩
   · exact absurd rfl hne
   · have hm1 : m = 1 := hm.symm
     subst hm1
     have hfn := Hd (hfin.trans (if_neg (okA_one a)))
     clear hcells c0 hfin hne hbk
     replace hm := Hd hm
     dsimp only []
     go_wp2_with fail
     go_returns
     exact ⟨ArcQ.no hfn.out, hb2.out⟩
   · have ca := hcells 0 a rfl
     have cb := hcells 1 b rfl
     have e2 : m = r.length + 2 := by rw [← hm]; rfl
     have o1 : ¬ ((m : Int) < 2) := by omega
     have o2 : decide ((m : Int) < 2) = false := decide_eq_false o1
     have o3 : (0 : Int) < (m : Int) := by omega
     have o4 : (1 : Int) < (m : Int) := by omega
     rw [okA_two, decide_eq_true (show r.length ≤ 14 by omega), Bool.and_true] at hfin
     clear hcells c0 hne hbk
     have HM := Hd hm
     clear hm
     replace e2 := Hd e2
     by_cases p2 : a ≤ 2
     · have o5 : ¬ ((2 : Int) < (a : Int)) := by omega
       have o6 : decide ((2 : Int) < (a : Int)) = false := decide_eq_false o5
       by_cases p3 : a < 2
       · have q1 : (a : Int) < 2 := by omega
         have q2 : decide ((a : Int) < 2) = true := decide_eq_true q1
         by_cases p4 : b ≤ 39
         · have q3 : ¬ ((40 : Int) ≤ (b : Int)) := by omega
           have q4 : decide ((40 : Int) ≤ (b : Int)) = false := decide_eq_false q3
           rw [decide_eq_true p2, decide_eq_true p4, Bool.or_true, Bool.and_true, if_pos rfl] at hfin
           have hfn := Hd hfin
           clear hfin
           dsimp only []
           go_wp2_with fail
           go_returns
           exact ⟨ArcQ.yes hfn.out HM.out ho.out, hb2.out⟩
         · have q3 : (40 : Int) ≤ (b : Int) := by omega
           have q4 : decide ((40 : Int) ≤ (b : Int)) = true := decide_eq_true q3
           rw [decide_eq_false p4, decide_eq_false (show ¬ 2 ≤ a by omega), Bool.or_false, Bool.and_false, if_neg (by decide)] at hfin
           have hfn := Hd hfin
           clear hfin
           dsimp only []
           go_wp2_with fail
           go_returns
           exact ⟨ArcQ.no hfn.out, hb2.out⟩
       · have q1 : ¬ ((a : Int) < 2) := by omega
         have q2 : decide ((a : Int) < 2) = false := decide_eq_false q1
         rw [decide_eq_true p2, decide_eq_true (show 2 ≤ a by omega), Bool.true_or, Bool.and_true, if_pos rfl] at hfin
         have hfn := Hd hfin
         clear hfin
         dsimp only []
         go_wp2_with fail
         go_returns
         exact ⟨ArcQ.yes hfn.out HM.out ho.out, hb2.out⟩
     · have o5 : (2 : Int) < (a : Int) := by omega
       have o6 : decide ((2 : Int) < (a : Int)) = true := decide_eq_true o5
       rw [decide_eq_false p2, Bool.false_and, if_neg (by decide)] at hfin
       have hfn := Hd hfin
       clear hfin
       dsimp only []
       go_wp2_with fail
       go_returns
       exact ⟨ArcQ.no hfn.out, hb2.out⟩
 · replace h1 := Hd h1
   dsimp only []
   go_wp2_with fail
   go_returns
   exact ⟨ArcQ.no h1.out, hb2.out⟩
theorem numeric_any (s : ByteArray) (w : World) (hs : s.size ≤ 9500) :
 Calls Tryz.prog 166 #[.string s] w fun e w' => e = .returned (.bool (arcsO s.data.toList).isSome) ∧ Below w.heap.size w w' := by
 have CA := Hd (arcs_any s w hs)
 go_enter Tryz.func166, Tryz.ntmps166
 go_wp2_with fail
 refine CA.out.mono ?_
 rintro _ w2 ⟨h1, h2⟩
 replace h2 := Hd h2
 unfold ArcQ at h1
 rcases h : arcsO s.data.toList with _ | L
 · rw [h] at h1
   obtain rfl := h1
   replace h := Hd h
   dsimp only []
   go_wp2_with fail
   go_returns
   exact ⟨by rw [h.out]; rfl, h2.out⟩
 · rw [h] at h1
   obtain ⟨g, c, rfl, h3⟩ := h1
   replace h := Hd h
   clear h3
   dsimp only []
   go_wp2_with fail
   go_returns
   exact ⟨by rw [h.out]; rfl, h2.out⟩
end Go.Proofs.YtcbiedonmibfaaaGreatDoor.O7
namespace Go.Proofs.YtcbiedonmibfaaaGreatDoor.O7
open Go.RowKit Go.Lib
theorem BoxS.below {w w' : World} {Bm Bo base : Nat} {D : List (List UInt8)} (h : BoxS w Bm Bo base D) (hb : Below w.heap.size w w') : BoxS w' Bm Bo base D := by
 obtain ⟨v, mb, DD, b1, b2, b3, b4, b5, ho, hm, h1, h2⟩ := h
 exact ⟨v, mb, DD, (hb.block Bo (Array.getElem?_eq_some_iff.1 b1).1).trans b1, (hb.block Bm (Array.getElem?_eq_some_iff.1 b2).1).trans b2, b3, b4, b5, ho.below hb (Nat.le_refl _),
  hm.kept (row := none) ⟨hb.os, hb.tape, hb.output, hb.size, fun k hk _ => hb.block k hk⟩ (by simp), h1, h2⟩
def VisS (l : List UInt8) (v : Bool) (w : World) (Bm Bo base : Nat) : Prop :=
 (v = true ∧ (∀ q ∈ sp 59 l, signsB q = true) ∧ ∃ D, D.Nodup ∧ (∀ x, x ∈ D ↔ x ∈ (sp 59 l).map lowL) ∧ D.length ≤ 9501 ∧ BoxS w Bm Bo base D) ∨ (v = false ∧ ∃ q ∈ sp 59 l, signsB q = false)
theorem alls_snoc {d : List (List UInt8)} {p : List UInt8} (h : ∀ q ∈ d, signsB q = true) (hp : signsB p = true) : ∀ q ∈ d ++ [p], signsB q = true := by
 intro q hq
 rcases List.mem_append.1 hq with hq | hq
 · exact h q hq
 · rw [List.mem_singleton.1 hq]
   exact hp
theorem mem_snoc {d D : List (List UInt8)} {p : List UInt8} (h : ∀ x, x ∈ D ↔ x ∈ d.map lowL) : ∀ x, x ∈ addO D (lowL p) ↔ x ∈ (d ++ [p]).map lowL := by
 intro x
 rw [addO_mem, h]
 simp
set_option maxRecDepth 4000 in
set_option maxHeartbeats 1600000 in
theorem visitOpts (l : List UInt8) (Bm Bo base : Nat) (w : World) (hl : l.length ≤ 9500) (hB : BoxS w Bm Bo base []) (hbs : base ≤ w.heap.size) :
 Calls Tryz.prog 200 #[.string (baO l), .string { data := #[59] }, .func (.func 201) #[] #[.pointer (some ⟨Bm, 0, none⟩), .pointer (some ⟨Bo, 0, none⟩)]] w fun e w' => ∃ v, e = .returned (.bool v) ∧ VisS l v w' Bm Bo base ∧ Below base w w' := by
 replace hB := Hd hB
 go_enter Tryz.func200, Tryz.ntmps200
 go_wp2_with fail
 go_loopw [0] (fun sv wr => ∃ (d : List (List UInt8)) (r : List UInt8) (D : List (List UInt8)), sv = .string (baO r) ∧ d.length + r.length ≤ 9500 ∧ D.length ≤ d.length ∧ Hid (sp 59 l = d ++ sp 59 r) ∧ Hid (∀ q ∈ d, signsB q = true) ∧ Hid D.Nodup ∧ Hid (∀ x, x ∈ D ↔ x ∈ d.map lowL) ∧ Hid (BoxS wr Bm Bo base D) ∧ Hid (Below base w wr)) (fun sv _ => szO sv)
 case atStart => exact ⟨[], l, [], rfl, by simpa using hl, Nat.le_refl _, Hd rfl, Hd (by simp), Hd List.nodup_nil, Hd (by simp), hB, Hd (Below.refl _ _)⟩
 case round =>
  obtain ⟨d, r, D, rfl, hr, hD, HS, HA, HN, HM, HBx, HB⟩ := hrel
  have hsz := HB.out.size
  have hbz := Nat.le_trans hbs hsz
  rcases part_cases 59 r with ⟨hm, hs⟩ | ⟨p, q, hr2, hm, hs⟩
  · have C1 := Hd (cut_miss r 59 hm wr)
    have C2 := Hd (seeOpt r Bm Bo base D wr HBx.out (by omega) (by omega) hbz)
    have HS2 := HS.out
    rw [hs] at HS2
    replace hs := Hd hs
    replace HS2 := Hd HS2
    go_wp2_with fail
    refine C1.out.mono ?_
    rintro _ w2 ⟨rfl, h2⟩
    subst w2
    dsimp only []
    go_wp2_with fail
    refine C2.out.mono ?_
    rintro _ w2 ⟨v, rfl, hq, hb2⟩
    replace hb2 := Hd (HB.out.trans hb2)
    rcases hq with ⟨rfl, h1, h3⟩ | ⟨rfl, h1⟩
    · have hfin : Hid (VisS l true w2 Bm Bo base) := Hd (.inl ⟨rfl, by rw [HS2.out]; exact alls_snoc HA.out h1, addO D (lowL r), addO_nodup HN.out, by rw [HS2.out]; exact mem_snoc HM.out, Nat.le_trans (addO_len _ _) (by omega), h3⟩)
      clear h1 h3
      dsimp only []
      go_wp2_with fail
      go_returns
      exact ⟨true, rfl, hfin.out, hb2.out⟩
    · have hfin : Hid (VisS l false w2 Bm Bo base) := Hd (.inr ⟨rfl, r, by rw [HS2.out]; simp, h1⟩)
      clear h1
      dsimp only []
      go_wp2_with fail
      go_returns
      exact ⟨false, rfl, hfin.out, hb2.out⟩
  · have hrl : d.length + (p.length + 1 + q.length) ≤ 9500 := by
     rw [hr2] at hr
     simp at hr
     omega
    have hss : szO (.string (baO q)) < szO (.string (baO r)) := by
     show (baO q).size < (baO r).size
     rw [baO_size, baO_size, hr2]
     simp
     omega
    have C1 : Hid (Calls Tryz.prog 112 #[.string (baO r), .string { data := #[59] }] wr fun e w' => e = .returned (.tuple #[.string (baO p), .string (baO q), .bool true]) ∧ Below wr.heap.size wr w') := Hd (by
     rw [hr2] at hr ⊢
     exact cut_hit p q 59 hm (by omega) wr)
    have HS2 := HS.out
    rw [hs] at HS2
    have HS3 : sp 59 l = (d ++ [p]) ++ sp 59 q := by rw [HS2]; simp
    replace hs := Hd hs
    replace hr2 := Hd hr2
    replace HS2 := Hd HS2
    replace HS3 := Hd HS3
    replace hss := Hd hss
    go_wp2_with fail
    refine C1.out.mono ?_
    rintro _ w1 ⟨rfl, h1⟩
    have C2 := Hd (seeOpt p Bm Bo base D w1 (HBx.out.below h1) (by omega) (by omega) (Nat.le_trans hbz h1.size))
    have HB1 := Hd (HB.out.trans (h1.mono hbz))
    clear h1
    dsimp only []
    go_wp2_with fail
    refine C2.out.mono ?_
    rintro _ w2 ⟨v, rfl, hq, hb2⟩
    replace hb2 := Hd (HB1.out.trans hb2)
    rcases hq with ⟨rfl, h1, h3⟩ | ⟨rfl, h1⟩
    · have h4 := Hd (alls_snoc HA.out h1)
      have h5 := Hd (mem_snoc (p := p) HM.out)
      have h6 := Hd (addO_nodup (x := lowL p) HN.out)
      have h7 := addO_len D (lowL p)
      replace h3 := Hd h3
      clear h1
      dsimp only []
      go_wp2_with fail
      go_roundw
      case rel => exact ⟨d ++ [p], q, addO D (lowL p), rfl, by rw [List.length_append, List.length_singleton]; omega, by rw [List.length_append, List.length_singleton]; omega, HS3, h4, h6, h5, h3, hb2⟩
      case measure => exact hss.out
    · have hfin : Hid (VisS l false w2 Bm Bo base) := Hd (.inr ⟨rfl, p, by rw [HS2.out]; simp, h1⟩)
      clear h1
      dsimp only []
      go_wp2_with fail
      go_returns
      exact ⟨false, rfl, hfin.out, hb2.out⟩
def OptQ (l : List UInt8) (base : Nat) (e : Ending) (w' : World) : Prop :=
 ((∃ q ∈ sp 59 l, signsB q = false) ∧ e = .returned (.tuple #[.slice none 0 0, .bool false])) ∨
 ((∀ q ∈ sp 59 l, signsB q = true) ∧ ∃ A c, e = .returned (.tuple #[.slice A (opts ((sp 59 l).map lowL)).length c, .bool true]) ∧ OwnO w' base (.slice A (opts ((sp 59 l).map lowL)).length c) (opts ((sp 59 l).map lowL)))
theorem boxS_new (w : World) : BoxS (((w.alloc (.cells #[.slice none 0 0] 23)).alloc (.map #[] 0)).alloc (.cells #[.map (some (w.heap.size + 1))] 276)) (w.heap.size + 2) w.heap.size w.heap.size [] := by
 have z1 : (w.alloc (.cells #[.slice none 0 0] 23)).heap.size = w.heap.size + 1 := by simp
 have z2 : ((w.alloc (.cells #[.slice none 0 0] 23)).alloc (.map #[] 0)).heap.size = w.heap.size + 2 := by simp
 have h1 := heap_alloc_new w (.cells #[.slice none 0 0] 23)
 have h2 := heap_alloc_new ((w.alloc (.cells #[.slice none 0 0] 23)).alloc (.map #[] 0)) (.cells #[.map (some (w.heap.size + 1))] 276)
 rw [z2] at h2
 have h3 := World.ownsMap_made (H := Unit) (w.alloc (.cells #[.slice none 0 0] 23)) Tryz.prog 9 unitElem
 rw [z1] at h3
 refine ⟨.slice none 0 0, w.heap.size + 1, .map [], ?_, h2, Nat.le_refl _, by omega, by omega, OwnO.nil _ _, h3.alloc _, Maps.isMap_empty, fun x => by simp [Maps.has]⟩
 exact (Below.heap_alloc _ _ _ (by rw [z2]; omega)).trans ((Below.heap_alloc _ _ _ (by rw [z1]; omega)).trans h1)
set_option maxRecDepth 8000 in
set_option maxHeartbeats 2000000 in
theorem opts_any (s : ByteArray) (w : World) (hs : s.size ≤ 9500) :
 Calls Tryz.prog 168 #[.string s] w fun e w' => OptQ s.data.toList w.heap.size e w' ∧ Below w.heap.size w w' := by
 obtain ⟨l, rfl⟩ : ∃ l, s = baO l := ⟨s.data.toList, rfl⟩
 rw [baO_list]
 rw [baO_size] at hs
 have hmm := @run_makeMap Tryz.prog
 have hal : Below w.heap.size w (((w.alloc (.cells #[.slice none 0 0] 23)).alloc (.map #[] 0)).alloc (.cells #[.map (some (w.heap.size + 1))] 276)) :=
  (((Below.refl _ _).alloc (Nat.le_refl _) _).alloc (by simp) _).alloc (by simp; omega) _
 have CV := Hd (visitOpts l (w.heap.size + 2) w.heap.size w.heap.size _ hs (boxS_new w) hal.size)
 replace hal := Hd hal
 go_enter Tryz.func168, Tryz.ntmps168
 go_wp2_with fail
 refine CV.out.mono ?_
 rintro _ w2 ⟨v, rfl, hq, hb2⟩
 replace hb2 := Hd (hal.out.trans hb2)
 rcases hq with ⟨rfl, h1, D, h2, h3, h4, hB⟩ | ⟨rfl, q, h1, h2⟩
 · obtain ⟨u, mb, DD, b1, _, _, _, _, ho, _⟩ := hB
   have hc := cell_of_one b1
   have hne : D ≠ [] := by
    intro e
    have hx := sp_ne 59 l
    cases hsp : sp 59 l with
    | nil => exact hx hsp
    | cons a T =>
      have := (h3 (lowL a)).2 (by rw [hsp]; simp)
      rw [e] at this
      cases this
   have hso := sort_opts D ((sp 59 l).map lowL) h2 h3
   obtain ⟨O, hO⟩ : ∃ O, O = opts ((sp 59 l).map lowL) := ⟨_, rfl⟩
   rw [← hO] at hso
   have hlen : O.length = D.length := by rw [← hso, List.length_mergeSort]
   obtain ⟨_, hx⟩ := ho
   rcases hx with ⟨_, h5⟩ | ⟨g, cap, cur, rfl, hbs, hg, k1, k2, k3, k4⟩
   · exact absurd (List.eq_nil_of_length_eq_zero h5) hne
   · rw [Nat.mul_one] at k4
     have hH : Go.Sort.Holds encStr w2 g 0 D.toArray := holds_of_block hg k4
     have CS := Tryz.slices_Sort_string g 0 cap D w2 hH (Array.getElem?_eq_some_iff.1 hg).1 (by omega)
     rw [show (D.mergeSort fun x y => decide (x ≤ y)) = O from hso] at CS
     obtain ⟨m, hm⟩ : ∃ m, m = D.length := ⟨_, rfl⟩
     rw [← hm] at CS hc hlen
     have hgB : w.heap.size ≠ g := by
      intro e
      rw [e] at b1
      rw [b1] at hg
      injection hg with hg
      exact cells_ne (by decide) hg
     have HR : Hid (∀ n os, ∃ W, W = Sort.grow (Sort.putRow encStr (Sort.ahead w2 n) g 0 O.toArray) os ∧ OwnO W w.heap.size (.slice (some ⟨g, 0, none⟩) m cap) O ∧ Below w.heap.size w W ∧ W.heap[w.heap.size]? = w2.heap[w.heap.size]?) := Hd fun n os => by
      have hr1 := ownsRow_sorted (n := n) (os := os) (ss := D) (ts := O) (by rw [hlen, hm]) hbs hg k1 k2 (by rw [k3])
      have hgr := grownBy_sorted (w := w2) (g := g) (n := n) (os := os) O.toArray
      refine ⟨_, rfl, ?_, hb2.out.grown hgr hb2.out.size (fun k hk => by injection hk with hk; omega), hgr.block _ (Array.getElem?_eq_some_iff.1 b1).1 (by simpa using hgB)⟩
      unfold OwnO
      rw [hlen, hm]
      exact hr1
     replace CS := Hd CS
     replace hm := Hd hm
     replace hO := Hd hO
     replace hlen := Hd hlen
     replace h1 := Hd h1
     replace b1 := Hd b1
     clear hH k1 k2 k3 k4 hg h2 h3 hso
     dsimp only []
     go_wp2_with fail
     refine CS.out.mono ?_
     rintro _ w3 ⟨rfl, n, os, hw3⟩
     obtain ⟨W, hW, hO3, hB3, hk3⟩ := HR.out n os
     rw [← hW] at hw3
     subst hw3
     have hc3 := cell_of_one (hk3.trans b1.out)
     replace hO3 := Hd hO3
     replace hB3 := Hd hB3
     clear hW hk3 hc
     dsimp only []
     go_wp2_with fail
     go_returns
     refine ⟨.inr ⟨h1.out, some ⟨g, 0, none⟩, cap, ?_, ?_⟩, hB3.out⟩
     · rw [← hO.out, hlen.out, hm.out]
       rfl
     · rw [← hO.out, hlen.out]
       exact hO3.out
 · have hfin : Hid (OptQ l w.heap.size (.returned (.tuple #[.slice none 0 0, .bool false])) w2) := Hd (.inl ⟨⟨q, h1, h2⟩, rfl⟩)
   clear h1 h2
   dsimp only []
   go_wp2_with fail
   go_returns
   exact ⟨hfin.out, hb2.out⟩
theorem cut_desc (l : List UInt8) (w : World) (hl : l.length ≤ 9500) : ∃ (p q : List UInt8) (m : Bool), (Calls Tryz.prog 112 #[.string (baO l), .string { data := #[59] }] w fun e w' => e = .returned (.tuple #[.string (baO p), .string (baO q), .bool m]) ∧ Below w.heap.size w w') ∧ sp 59 l = p :: (if m = true then sp 59 q else []) ∧ p.length ≤ 9500 ∧ q.length ≤ 9500 := by
 rcases part_cases 59 l with ⟨hm, hs⟩ | ⟨p, q, hr, hm, hs⟩
 · refine ⟨l, [], false, (cut_miss l 59 hm w).mono fun e w' ⟨h1, h2⟩ => ⟨h1, h2 ▸ Below.refl _ _⟩, hs, hl, by simp⟩
 · refine ⟨p, q, true, ?_, hs, ?_, ?_⟩
   · subst hr
     exact cut_hit p q 59 hm (by omega) w
   · rw [hr] at hl
     simp at hl
     omega
   · rw [hr] at hl
     simp at hl
     omega
def DesQ (l : List UInt8) (e : Ending) (w' : World) : Prop := ∃ A c, e = .returned (.tuple #[.string (baO (deO l).1), .slice A (deO l).2.1.length c, .bool (deO l).2.2]) ∧ SrcO w' w'.heap.size A c (deO l).2.1
theorem DesQ.no {l : List UInt8} {w' : World} (h : descO l = none) : DesQ l (.returned (.tuple #[.string ⟨#[]⟩, .slice none 0 0, .bool false])) w' := by
 unfold DesQ
 rw [deO_none h]
 exact ⟨none, 0, rfl, SrcO.none_ _ _⟩
theorem DesQ.yes {l a : List UInt8} {O : List (List UInt8)} {A : Option Addr} {n c : Nat} {w' : World} (h : descO l = some (a, O)) (hn : O.length = n) (hs : SrcO w' w'.heap.size A c O) : DesQ l (.returned (.tuple #[.string (baO a), .slice A n c, .bool true])) w' := by
 unfold DesQ
 rw [deO_some h]
 subst hn
 exact ⟨A, c, rfl, hs⟩
set_option maxRecDepth 8000 in
set_option maxHeartbeats 4000000 in
theorem describe_any (s : ByteArray) (w : World) (hs : s.size ≤ 9500) :
 Calls Tryz.prog 114 #[.string s] w fun e w' => DesQ s.data.toList e w' ∧ Below w.heap.size w w' := by
 obtain ⟨l, rfl⟩ : ∃ l, s = baO l := ⟨s.data.toList, rfl⟩
 rw [baO_list]
 rw [baO_size] at hs
 obtain ⟨p, q, m, CC, hsp, hp, hq⟩ := cut_desc l w hs
 have hd := desc_of hsp
 have hsz := baO_size l
 have CN := fun W => numeric_any (baO p) W (by rw [baO_size]; exact hp)
 have CW := fun W => word_any (baO p) W (by rw [baO_size]; omega)
 have CO := fun W => opts_any (baO q) W (by rw [baO_size]; exact hq)
 have CL := fun W => lower_any (baO p) W (by rw [baO_size]; omega)
 simp only [baO_list] at CN CW CO CL
 replace CC := Hd CC
 replace CL := Hd CL
 replace hsp := Hd hsp
 by_cases hbig : 64 < l.length
 · rw [if_pos hbig] at hd
   have k1 : (64 : Int) < ((baO l).size : Int) := by omega
   have k2 : decide ((64 : Int) < ((baO l).size : Int)) = true := decide_eq_true k1
   replace hd := Hd hd
   replace hsz := Hd hsz
   replace CN := Hd CN
   replace CW := Hd CW
   replace CO := Hd CO
   go_enter Tryz.func114, Tryz.ntmps114
   go_wp2_with fail
   refine CC.out.mono ?_
   rintro _ w1 ⟨rfl, h1⟩
   have HB1 := Hd h1
   clear h1
   dsimp only []
   go_wp2_with fail
   go_returns
   exact ⟨DesQ.no hd.out, HB1.out⟩
 · rw [if_neg hbig] at hd
   have k1 : ¬ ((64 : Int) < ((baO l).size : Int)) := by omega
   have k2 : decide ((64 : Int) < ((baO l).size : Int)) = false := decide_eq_false k1
   replace hsz := Hd hsz
   cases ha : (arcsO p).isSome with
   | true =>
     rw [ha, Bool.true_or, Bool.true_and] at hd
     rw [ha] at CN
     replace hd := Hd hd
     replace CN := Hd CN
     replace CW := Hd CW
     replace CO := Hd CO
     cases m with
     | false =>
       have hd2 : descO l = some (lowL p, []) := by rw [hd.out]; rfl
       replace hd2 := Hd hd2
       go_enter Tryz.func114, Tryz.ntmps114
       go_wp2_with fail
       refine CC.out.mono ?_
       rintro _ w1 ⟨rfl, h1⟩
       have HB1 := Hd h1
       clear h1
       dsimp only []
       go_wp2_with fail
       refine (CN.out _).mono ?_
       rintro _ w2 ⟨rfl, h2⟩
       have HB2 := Hd (HB1.out.trans (h2.mono HB1.out.size))
       clear h2
       dsimp only []
       go_wp2_with fail
       refine (CL.out _).mono ?_
       rintro _ w5 ⟨rfl, h5⟩
       have HB5 := Hd (HB2.out.trans (h5.mono HB2.out.size))
       clear h5
       dsimp only []
       go_wp2_with fail
       go_returns
       exact ⟨DesQ.yes hd2.out rfl (SrcO.none_ _ _), HB5.out⟩
     | true =>
       have hd1 : descO l = if (sp 59 q).all signsB = true then some (lowL p, opts ((sp 59 q).map lowL)) else none := hd.out
       replace hd1 := Hd hd1
       clear hd
       go_enter Tryz.func114, Tryz.ntmps114
       go_wp2_with fail
       refine CC.out.mono ?_
       rintro _ w1 ⟨rfl, h1⟩
       have HB1 := Hd h1
       clear h1
       dsimp only []
       go_wp2_with fail
       refine (CN.out _).mono ?_
       rintro _ w2 ⟨rfl, h2⟩
       have HB2 := Hd (HB1.out.trans (h2.mono HB1.out.size))
       clear h2
       dsimp only []
       go_wp2_with fail
       refine (CO.out _).mono ?_
       rintro _ w4 ⟨h3, h4⟩
       have HB4 := Hd (HB2.out.trans (h4.mono HB2.out.size))
       have hz4 := h4.size
       clear h4
       rcases h3 with ⟨⟨z, z1, z2⟩, rfl⟩ | ⟨z1, A, c, rfl, ho⟩
       · have hd2 : descO l = none := by
          rw [hd1.out, all_bad z1 z2]
          rfl
         replace hd2 := Hd hd2
         clear z1 z2
         dsimp only []
         go_wp2_with fail
         go_returns
         exact ⟨DesQ.no hd2.out, HB4.out⟩
       · have hd2 : descO l = some (lowL p, opts ((sp 59 q).map lowL)) := by
          rw [hd1.out, List.all_eq_true.2 z1]
          rfl
         obtain ⟨O, hO⟩ : ∃ O, O = opts ((sp 59 q).map lowL) := ⟨_, rfl⟩
         rw [← hO] at hd2 ho ⊢
         obtain ⟨n, hn⟩ : ∃ n, O.length = n := ⟨_, rfl⟩
         rw [hn] at ho ⊢
         have hs4 := Hd (OwnO.src ho)
         replace hd2 := Hd hd2
         replace hO := Hd hO
         replace hn := Hd hn
         clear z1 ho
         dsimp only []
         go_wp2_with fail
         refine (CL.out _).mono ?_
         rintro _ w5 ⟨rfl, h5⟩
         have HB5 := Hd (HB4.out.trans (h5.mono HB4.out.size))
         have hs5 := Hd (hs4.out.next h5)
         clear h5
         dsimp only []
         go_wp2_with fail
         go_returns
         exact ⟨DesQ.yes hd2.out hn.out hs5.out, HB5.out⟩
   | false =>
     rw [ha, Bool.false_or] at hd
     rw [ha] at CN
     cases hw : wordB p with
     | false =>
       rw [hw, Bool.false_and, if_neg (by decide)] at hd
       rw [hw] at CW
       replace hd := Hd hd
       replace CN := Hd CN
       replace CW := Hd CW
       replace CO := Hd CO
       go_enter Tryz.func114, Tryz.ntmps114
       go_wp2_with fail
       refine CC.out.mono ?_
       rintro _ w1 ⟨rfl, h1⟩
       have HB1 := Hd h1
       clear h1
       dsimp only []
       go_wp2_with fail
       refine (CN.out _).mono ?_
       rintro _ w2 ⟨rfl, h2⟩
       have HB2 := Hd (HB1.out.trans (h2.mono HB1.out.size))
       clear h2
       dsimp only []
       go_wp2_with fail
       refine (CW.out _).mono ?_
       rintro _ w3 ⟨rfl, e3⟩
       subst w3
       dsimp only []
       go_wp2_with fail
       go_returns
       exact ⟨DesQ.no hd.out, HB2.out⟩
     | true =>
       rw [hw, Bool.true_and] at hd
       rw [hw] at CW
       replace hd := Hd hd
       replace CN := Hd CN
       replace CW := Hd CW
       replace CO := Hd CO
       cases m with
       | false =>
         have hd2 : descO l = some (lowL p, []) := by rw [hd.out]; rfl
         replace hd2 := Hd hd2
         go_enter Tryz.func114, Tryz.ntmps114
         go_wp2_with fail
         refine CC.out.mono ?_
         rintro _ w1 ⟨rfl, h1⟩
         have HB1 := Hd h1
         clear h1
         dsimp only []
         go_wp2_with fail
         refine (CN.out _).mono ?_
         rintro _ w2 ⟨rfl, h2⟩
         have HB2 := Hd (HB1.out.trans (h2.mono HB1.out.size))
         clear h2
         dsimp only []
         go_wp2_with fail
         refine (CW.out _).mono ?_
         rintro _ w3 ⟨rfl, e3⟩
         subst w3
         dsimp only []
         go_wp2_with fail
         refine (CL.out _).mono ?_
         rintro _ w5 ⟨rfl, h5⟩
         have HB5 := Hd (HB2.out.trans (h5.mono HB2.out.size))
         clear h5
         dsimp only []
         go_wp2_with fail
         go_returns
         exact ⟨DesQ.yes hd2.out rfl (SrcO.none_ _ _), HB5.out⟩
       | true =>
         have hd1 : descO l = if (sp 59 q).all signsB = true then some (lowL p, opts ((sp 59 q).map lowL)) else none := hd.out
         replace hd1 := Hd hd1
         clear hd
         go_enter Tryz.func114, Tryz.ntmps114
         go_wp2_with fail
         refine CC.out.mono ?_
         rintro _ w1 ⟨rfl, h1⟩
         have HB1 := Hd h1
         clear h1
         dsimp only []
         go_wp2_with fail
         refine (CN.out _).mono ?_
         rintro _ w2 ⟨rfl, h2⟩
         have HB2 := Hd (HB1.out.trans (h2.mono HB1.out.size))
         clear h2
         dsimp only []
         go_wp2_with fail
         refine (CW.out _).mono ?_
         rintro _ w3 ⟨rfl, e3⟩
         subst w3
         dsimp only []
         go_wp2_with fail
         refine (CO.out _).mono ?_
         rintro _ w4 ⟨h3, h4⟩
         have HB4 := Hd (HB2.out.trans (h4.mono HB2.out.size))
         have hz4 := h4.size
         clear h4
         rcases h3 with ⟨⟨z, z1, z2⟩, rfl⟩ | ⟨z1, A, c, rfl, ho⟩
         · have hd2 : descO l = none := by
            rw [hd1.out, all_bad z1 z2]
            rfl
           replace hd2 := Hd hd2
           clear z1 z2
           dsimp only []
           go_wp2_with fail
           go_returns
           exact ⟨DesQ.no hd2.out, HB4.out⟩
         · have hd2 : descO l = some (lowL p, opts ((sp 59 q).map lowL)) := by
            rw [hd1.out, List.all_eq_true.2 z1]
            rfl
           obtain ⟨O, hO⟩ : ∃ O, O = opts ((sp 59 q).map lowL) := ⟨_, rfl⟩
           rw [← hO] at hd2 ho ⊢
           obtain ⟨n, hn⟩ : ∃ n, O.length = n := ⟨_, rfl⟩
           rw [hn] at ho ⊢
           have hs4 := Hd (OwnO.src ho)
           replace hd2 := Hd hd2
           replace hO := Hd hO
           replace hn := Hd hn
           clear z1 ho
           dsimp only []
           go_wp2_with fail
           refine (CL.out _).mono ?_
           rintro _ w5 ⟨rfl, h5⟩
           have HB5 := Hd (HB4.out.trans (h5.mono HB4.out.size))
           have hs5 := Hd (hs4.out.next h5)
           clear h5
           dsimp only []
           go_wp2_with fail
           go_returns
           exact ⟨DesQ.yes hd2.out hn.out hs5.out, HB5.out⟩
end Go.Proofs.YtcbiedonmibfaaaGreatDoor.O7
namespace Go.Proofs.YtcbiedonmibfaaaGreatDoor.O7
open Go.RowKit Go.Lib
open Go.RowKit
set_option maxHeartbeats 1000000 in
set_option maxRecDepth 100000 in
theorem bcheck_used (b : Nat) (w : World) (h0 : w.cell? ⟨b, 0, none⟩ = some (.pointer (some ⟨b, 0, none⟩))) :
 Calls Tryz.prog 104 #[.pointer (some ⟨b, 0, none⟩)] w fun e w' => e = .returned (.tuple #[]) ∧ w' = w := by
 have X : (Tryz.prog.info? 74).map (·.size) = some 2 := by kernel_rfl
 obtain ⟨j, hj, _⟩ := Option.map_eq_some_iff.1 X
 go_enter Tryz.func104, Tryz.ntmps104
 go_wp2
 rw [Lib.run_neq_ptr_same w _ Tryz.underlying72 hj]
 go_wp2
 go_end0
 exact ⟨rfl, rfl⟩
set_option maxHeartbeats 1000000 in
set_option maxRecDepth 100000 in
theorem bcheck_fresh (b : Nat) (w : World) (h0 : w.cell? ⟨b, 0, none⟩ = some (.pointer none)) (hsh : w.shape? b = some (74, 2)) (hfz : w.frozen? ⟨b, 0, none⟩ = false) :
 Calls Tryz.prog 104 #[.pointer (some ⟨b, 0, none⟩)] w fun e w' => e = .returned (.tuple #[]) ∧ w' = w.setCell ⟨b, 0, none⟩ (.pointer (some ⟨b, 0, none⟩)) := by
 have X : (Tryz.prog.info? 74).map (·.size) = some 2 := by kernel_rfl
 obtain ⟨j, hj, hjs⟩ := Option.map_eq_some_iff.1 X
 have XL : liesAt Tryz.prog Tryz.prog.depth 74 (2 / Tryz.prog.cellsOf 74) 0 74 1 = true := by kernel_rfl
 go_enter Tryz.func104, Tryz.ntmps104
 go_wp2
 rw [Lib.run_to_unsafe w ⟨b, 0, none⟩ Tryz.underlying72 Tryz.underlying171 hj (by rw [hjs]; decide) hsh (Nat.zero_lt_succ 1)]
 simp only [Result.andThen]
 rw [Oper.upon_value]
 go_wp2
 rw [run_callFunc_extern Tryz.func151 (by kernel_rfl) (by kernel_rfl) (by kernel_rfl) (e := Extern.AbiNoEscape.same) (by kernel_rfl)]
 rw [Lib.run_noEscape]
 simp only [Result.andThen]
 rw [Oper.upon_value]
 go_wp2
 rw [Lib.run_from_unsafe w ⟨b, 0, none⟩ Tryz.underlying171 Tryz.underlying72 hj hsh XL]
 simp only [Result.andThen]
 rw [Oper.upon_value]
 go_wp2
 go_end0
 exact ⟨rfl, rfl⟩
theorem bcheck_any (B b : Nat) (bs : List Value) (w : World) (h : Lib.IsBuilderF 74 5 B b bs w) :
 Calls Tryz.prog 104 #[.pointer (some ⟨b, 0, none⟩)] w fun e w' => e = .returned (.tuple #[]) ∧ (Lib.BuilderAtF 74 5 B b (.pointer (some ⟨b, 0, none⟩)) bs w' ∧ Below B w w') := by
 rcases h with h | h
 · refine (bcheck_fresh b w h.cell0 h.shape h.frozen0).mono ?_
   rintro e w' ⟨rfl, rfl⟩
   exact ⟨rfl, h.used _, (Below.refl B w).setCell (p := ⟨b, 0, none⟩) h.1 _⟩
 · refine (bcheck_used b w h.cell0).mono ?_
   rintro e w' ⟨rfl, rfl⟩
   exact ⟨rfl, h, Below.refl B _⟩
set_option maxHeartbeats 2000000 in
set_option maxRecDepth 100000 in
theorem wstr_any (B b : Nat) (bs : List Value) (s : ByteArray) (w : World) (h : Lib.IsBuilderF 74 5 B b bs w) (hlen : bs.length + s.size ≤ 140737488355328) (hBw : B ≤ w.heap.size) :
 Calls Tryz.prog 59 #[.pointer (some ⟨b, 0, none⟩), .string s] w fun e w' => e = .returned (.tuple #[.int .i64 s.size, .nilIface]) ∧ (Lib.IsBuilderF 74 5 B b (bs ++ Lib.strCells s) w' ∧ Below B w w') := by
 have XB : (Tryz.prog.info? 5).map (fun i => (i.zero, i.size, i.bytes)) = some (some (.int .u8 0), 1, 1) := by kernel_rfl
 obtain ⟨i0, hi, hz0, hz1, hz2⟩ := info_parts XB
 have CC := Hd (bcheck_any B b bs w h)
 clear h
 go_enter Tryz.func59, Tryz.ntmps59
 go_wp2_with fail
 refine CC.out.mono ?_
 rintro _ w1 ⟨rfl, h1, hb1⟩
 obtain ⟨hB, v, hbk, hown, hne⟩ := h1
 have c0 : w1.cell? ⟨b, 0, none⟩ = some (.pointer (some ⟨b, 0, none⟩)) := by rw [Lib.cell_of_heap hbk]; rfl
 have c1 : w1.cell? ⟨b, 1, none⟩ = some v := by rw [Lib.cell_of_heap hbk]; rfl
 go_wp2_with (at_builtin; refine Lib.wpList_append_own_stringF _ rfl _ _ 40 9 rfl B 5 i0 Tryz.underlying40 Tryz.underlying9 hi hz0 hz1 hz2 _ _ _ rfl hown s rfl ?c3 ?c4 ?c5 ?_)
 case c3 => unfold maxLen; omega
 case c4 => omega
 case c5 => have := hb1.size; omega
 intro v' w2 hown' hgrow _
 have hlt : b < w1.heap.size := by
  rcases Nat.lt_or_ge b w1.heap.size with h' | h'
  · exact h'
  · simp [Array.getElem?_eq_none h'] at hbk
 have hb2 : w2.heap[b]? = some (.cells #[.pointer (some ⟨b, 0, none⟩), v] 74 (0, 0)) := by
  rw [hgrow.block b hlt (fun e => hne e.symm)]
  exact hbk
 have d0 : w2.cell? ⟨b, 0, none⟩ = some (.pointer (some ⟨b, 0, none⟩)) := by rw [Lib.cell_of_heap hb2]; rfl
 have d1 : w2.cell? ⟨b, 1, none⟩ = some v := by rw [Lib.cell_of_heap hb2]; rfl
 have f1 : w2.frozen? ⟨b, 1, none⟩ = false := Lib.frozen_of_heap hb2 1
 obtain ⟨ao, n', cap, rfl⟩ : ∃ ao n' cap, v' = .slice ao n' cap := by
  rcases hown'.2 with ⟨hv, _⟩ | ⟨g, cap, cur, fz, hv, _⟩
  · exact ⟨_, _, _, hv⟩
  · exact ⟨_, _, _, hv⟩
 go_wp2
 go_ret2
 refine ⟨rfl, .inr ?_, ?_⟩
 · exact Lib.BuilderAtF.put (T := 74) (e := 5) hB hb2 (bs' := bs ++ Lib.strCells s) (by simpa [Lib.strCells_length] using hown') (by decide)
 · exact (hb1.grown hgrow (by have := hb1.size; omega) (fun k hk => (hown.lt k hk).1)).setCell (p := ⟨b, 1, none⟩) hB _
def Bld (w : World) (base b : Nat) (l : List UInt8) : Prop := Lib.IsBuilderF 74 5 base b (Lib.byteCells l) w
theorem Bld.new (w : World) : Bld (w.alloc (.cells #[.pointer none, .slice none 0 0] 74)) w.heap.size w.heap.size [] := Lib.IsBuilderF.of (Lib.fresh_isBuilder _ _ _)
theorem bld_write (base b : Nat) (l m : List UInt8) (w : World) (h : Bld w base b l) (hlen : l.length + m.length ≤ 1000000) (hB : base ≤ w.heap.size) :
 Calls Tryz.prog 59 #[.pointer (some ⟨b, 0, none⟩), .string (baO m)] w fun e w' => e = .returned (.tuple #[.int .i64 (baO m).size, .nilIface]) ∧ Bld w' base b (l ++ m) ∧ Below base w w' := by
 refine (wstr_any base b (Lib.byteCells l) (baO m) w h (by rw [Lib.byteCells_length, baO_size]; omega) hB).mono fun _ _ ⟨h1, h2, h3⟩ => ⟨h1, ?_, h3⟩
 unfold Bld
 rw [Lib.byteCells_append]
 exact h2
theorem bld_read (base b : Nat) (l : List UInt8) (w : World) (h : Bld w base b l) (hB : base ≤ w.heap.size) :
 Calls Tryz.prog 28 #[.pointer (some ⟨b, 0, none⟩)] w fun e w' => e = .returned (.string (baO l)) ∧ Below base w w' :=
 (Tryz.Builder_String_any_f base b l w h hB).mono fun _ _ ⟨h1, _, h3⟩ => ⟨h1, h3⟩
theorem flat_succ (L : List (List UInt8)) (k : Nat) (hk : k < L.length) : ((L.take (k + 1)).flatMap fun q => (59 : UInt8) :: q) = ((L.take k).flatMap fun q => (59 : UInt8) :: q) ++ 59 :: L[k] := by
 rw [List.take_succ_eq_append_getElem hk, List.flatMap_append]
 simp
set_option maxRecDepth 8000 in
set_option maxHeartbeats 2000000 in
theorem text_any (s : ByteArray) (A : Option Addr) (c N : Nat) (L : List (List UInt8)) (w : World) (hL : L.length = N) (hN : N ≤ 9500) (hs : s.size + wt L ≤ 100000) (hsrc : SrcO w w.heap.size A c L) :
 Calls Tryz.prog 115 #[.string s, .slice A N c] w fun e w' => e = .returned (.string (baO (s.data.toList ++ L.flatMap fun q => (59 : UInt8) :: q))) ∧ Below w.heap.size w w' := by
 obtain ⟨l, rfl⟩ : ∃ l, s = baO l := ⟨s.data.toList, rfl⟩
 rw [baO_list]
 rw [baO_size] at hs
 have hget : Hid (∀ k, k < N → ∃ ad l, A = some ad ∧ L[k]? = some l ∧ w.cell? (ad.add k) = some (.string (baO l)) ∧ ad.block < w.heap.size ∧ ((L.take (k + 1)).flatMap fun q => (59 : UInt8) :: q) = ((L.take k).flatMap fun q => (59 : UInt8) :: q) ++ 59 :: l) := Hd fun k hk => by
  have hkl : k < L.length := by omega
  have hx : L[k]? = some L[k] := List.getElem?_eq_getElem hkl
  rcases A with _ | ad
  · have := hsrc.nil rfl
    have := hsrc.le
    omega
  · exact ⟨ad, L[k], rfl, hx, (hsrc.at_ ad rfl).2 k _ hx, (hsrc.at_ ad rfl).1 (by omega), flat_succ L k hkl⟩
 have hend : Hid (L.take N = L) := Hd (List.take_of_length_le (by omega))
 have hwt := Hd (wt_take L)
 have hle := hsrc.le
 rw [hL] at hle
 have hal : Below w.heap.size w (w.alloc (.cells #[.pointer none, .slice none 0 0] 74)) := (Below.refl _ _).alloc (Nat.le_refl _) _
 have C0 := Hd (bld_write w.heap.size w.heap.size [] l _ (Bld.new w) (by simp; omega) hal.size)
 replace hal := Hd hal
 replace hsrc := Hd hsrc
 replace hL := Hd hL
 go_enter Tryz.func115, Tryz.ntmps115
 go_wp2_with fail
 refine C0.out.mono ?_
 rintro _ w1 ⟨rfl, h1, h2⟩
 have HB0 := Hd h1
 have HB1 := Hd (hal.out.trans h2)
 clear h1 h2
 dsimp only []
 go_wp2_with fail
 go_loopw [12] (fun iv wr => ∃ (k : Nat), k ≤ N ∧ iv = .int .i64 (k : Int) ∧ Hid (Bld wr w.heap.size w.heap.size (l ++ ((L.take k).flatMap fun q => (59 : UInt8) :: q))) ∧ Hid (Below w.heap.size w wr)) (fun i _ => N - (RowKit.intOf i).toNat)
 case atStart => exact ⟨0, Nat.zero_le _, rfl, Hd (by simpa using HB0.out), HB1⟩
 case round =>
  obtain ⟨k, hk, rfl, HX, HB⟩ := hrel
  have hsz := HB.out.size
  by_cases hlt : k < N
  · obtain ⟨ad, m, rfl, hl, hc, hbk, htk⟩ := hget.out k hlt
    have hcw : wr.cell? (ad.add k) = some (.string (baO m)) := by
     rw [HB.out.cell (p := ad.add k) (by rw [add_block]; exact hbk), hc]
    have i0 : (0 : Int) ≤ (k : Int) := by omega
    have i1 : (k : Int) < (N : Int) := by omega
    obtain ⟨X, hX⟩ : ∃ X, X = l ++ ((L.take k).flatMap fun q => (59 : UInt8) :: q) := ⟨_, rfl⟩
    rw [← hX] at HX
    have hX2 : (X ++ [59]) ++ m = l ++ ((L.take (k + 1)).flatMap fun q => (59 : UInt8) :: q) := by rw [hX, htk]; simp
    have hlen : X.length + 1 + m.length ≤ 100000 := by
     have h1 := hwt.out (k + 1)
     have h2 := congrArg List.length hX2
     simp only [List.length_append, List.length_singleton] at h2
     unfold wt at h1 hs
     omega
    have C1 := Hd (bld_write w.heap.size w.heap.size X [59] wr HX.out (by simp; omega) hsz)
    replace hX := Hd hX
    replace hX2 := Hd hX2
    replace hl := Hd hl
    replace htk := Hd htk
    clear hc
    go_wp2_with fail
    refine C1.out.mono ?_
    rintro _ w2 ⟨rfl, h1, h2⟩
    have C2 := Hd (bld_write w.heap.size w.heap.size (X ++ [59]) m w2 h1 (by simp; omega) (Nat.le_trans hsz h2.size))
    have HB2 := Hd (HB.out.trans h2)
    clear h1 h2
    dsimp only []
    go_wp2_with fail
    refine C2.out.mono ?_
    rintro _ w3 ⟨rfl, h1, h2⟩
    rw [hX2.out] at h1
    have HX3 := Hd h1
    have HB3 := Hd (HB2.out.trans h2)
    clear h1 h2
    dsimp only []
    go_wp2_with fail
    go_roundw
    case rel => exact ⟨k + 1, by omega, by go_num, HX3, HB3⟩
    case measure => simp [RowKit.intOf]; omega
  · have hkk : k = N := by omega
    subst hkk
    have i1 : ¬ ((k : Int) < (k : Int)) := by omega
    rw [hend.out] at HX
    have C3 := Hd (bld_read w.heap.size w.heap.size _ wr HX.out hsz)
    go_wp2_with fail
    refine C3.out.mono ?_
    rintro _ w2 ⟨rfl, h2⟩
    replace h2 := Hd (HB.out.trans h2)
    dsimp only []
    go_wp2_with fail
    go_returns
    exact ⟨rfl, h2.out⟩
end Go.Proofs.YtcbiedonmibfaaaGreatDoor.O7
