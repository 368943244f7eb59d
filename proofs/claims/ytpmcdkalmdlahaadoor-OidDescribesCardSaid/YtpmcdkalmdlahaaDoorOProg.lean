/-
  The program's functions answer what the laws ask.
-/
import Derived.Test.YtpmcdkalmdlahaaDoorOidIns
import Derived.Sort.KeysCollected
import Derived.Test.YtpmcdkalmdlahaaDoorOPa
import Derived.Test.YtpmcdkalmdlahaaDoorPLow
import Derived.Test.YtpmcdkalmdlahaaDoorCuts
import Derived.Maps.OwnOps
import Derived.Maps.OwnSet
import Derived.Maps.Views
import Derived.Test.YtpmcdkalmdlahaaDoorOPb
import Derived.Test.YtpmcdkalmdlahaaDoorOHyp
import Derived.Sort.OwnSorted
import Derived.Test.YtpmcdkalmdlahaaDoorOPc
namespace Go.Proofs.YtpmcdkalmdlahaaDoor
open Go.Lib

theorem bl_lt : ∀ (x y : List UInt8), Op.bytesLess x y = decide (x < y)
  | [], [] => by simp [Op.bytesLess]
  | _ :: _, [] => by simp [Op.bytesLess]
  | [], _ :: _ => by simp [Op.bytesLess]
  | a :: x, b :: y => by
    rw [Op.bytesLess, bl_lt x y, Bool.eq_iff_iff]
    simp only [Bool.or_eq_true, Bool.and_eq_true, decide_eq_true_eq, beq_iff_eq, List.cons_lt_cons_iff]
theorem ins_has (x : List UInt8) : ∀ (L : List (List UInt8)) (y : List UInt8), y = x ∨ y ∈ L → y ∈ ins x L
  | [], y, h => by simpa [ins] using h
  | z :: r, y, h => by
    unfold ins
    split
    · rcases h with h | h
      · exact List.mem_cons_of_mem _ (ins_has x r y (.inl h))
      · rcases List.mem_cons.1 h with h | h
        · simp [h]
        · exact List.mem_cons_of_mem _ (ins_has x r y (.inr h))
    · split
      · rename_i h1
        rcases h with h | h
        · simp [h, h1]
        · exact h
      · rcases h with h | h
        · simp [h]
        · exact List.mem_cons_of_mem _ h
theorem foldl_has : ∀ (L O : List (List UInt8)) (y : List UInt8), y ∈ L ∨ y ∈ O → y ∈ L.foldl (fun O x => ins x O) O
  | [], _, _, h => by simpa using h
  | x :: L, O, y, h => by
    rw [List.foldl_cons]
    refine foldl_has L _ y ?_
    rcases h with h | h
    · rcases List.mem_cons.1 h with h | h
      · exact .inr (ins_has x O y (.inl h))
      · exact .inl h
    · exact .inr (ins_has x O y (.inr h))
theorem opts_iff (L : List (List UInt8)) (y : List UInt8) : y ∈ opts L ↔ y ∈ L :=
  ⟨opts_mem, fun h => foldl_has L [] y (.inl h)⟩
theorem asc_pair : ∀ {L : List (List UInt8)}, Asc L → L.Pairwise (fun x y => Op.bytesLess x y = true)
  | [], _ => List.Pairwise.nil
  | _ :: _, h => List.Pairwise.cons h.1 (asc_pair h.2)
theorem asc_nodup {L : List (List UInt8)} (h : Asc L) : L.Nodup := (asc_pair h).imp fun {a b} h1 e => by
  subst e
  rw [bl_irrefl] at h1
  cases h1
theorem sort_opts (D L : List (List UInt8)) (hD : D.Nodup) (hm : ∀ x, x ∈ D ↔ x ∈ L) : D.mergeSort leB = opts L := by
  have hp : D.Perm (opts L) := (List.perm_ext_iff_of_nodup hD (asc_nodup (opts_asc L))).2 fun x => by rw [hm, opts_iff]
  rw [mergeSort_of_perm hp]
  refine List.mergeSort_of_pairwise ((asc_pair (opts_asc L)).imp fun {a b} h => ?_)
  rw [bl_lt, decide_eq_true_eq] at h
  rw [leB, decide_eq_true_eq]
  exact List.le_of_lt h
end Go.Proofs.YtpmcdkalmdlahaaDoor
namespace Go.Proofs.YtpmcdkalmdlahaaDoor
open Go.Lib

theorem low_semi (c : UInt8) : low c = 59 ↔ c = 59 := by
  have h : ∀ n, n < 256 → (low (UInt8.ofNat n) = 59 ↔ UInt8.ofNat n = 59) := by decide +kernel
  have := h c.toNat c.toNat_lt
  rwa [UInt8.ofNat_toNat] at this
theorem low_sign (c : UInt8) : signB (low c) = signB c := by
  have h : ∀ n, n < 256 → (signB (low (UInt8.ofNat n)) = signB (UInt8.ofNat n)) := by decide +kernel
  have := h c.toNat c.toNat_lt
  rwa [UInt8.ofNat_toNat] at this
theorem low_letter (c : UInt8) : letterB (low c) = letterB c := by
  have h : ∀ n, n < 256 → (letterB (low (UInt8.ofNat n)) = letterB (UInt8.ofNat n)) := by decide +kernel
  have := h c.toNat c.toNat_lt
  rwa [UInt8.ofNat_toNat] at this
theorem low_digit (c : UInt8) : (low c = 46 ∨ isDig (low c) = true) → low c = c := by
  have h : ∀ n, n < 256 → ((low (UInt8.ofNat n) = 46 ∨ isDig (low (UInt8.ofNat n)) = true) → low (UInt8.ofNat n) = UInt8.ofNat n) := by decide +kernel
  have := h c.toNat c.toNat_lt
  rwa [UInt8.ofNat_toNat] at this
theorem digit_low (c : UInt8) : (c = 46 ∨ isDig c = true) → low c = c := by
  have h : ∀ n, n < 256 → ((UInt8.ofNat n = 46 ∨ isDig (UInt8.ofNat n) = true) → low (UInt8.ofNat n) = UInt8.ofNat n) := by decide +kernel
  have := h c.toNat c.toNat_lt
  rwa [UInt8.ofNat_toNat] at this
theorem sp_low : ∀ l : List UInt8, sp 59 (lowL l) = (sp 59 l).map lowL
  | [] => rfl
  | c :: l => by
    have ih := sp_low l
    show sp 59 (low c :: lowL l) = _
    unfold sp
    by_cases h : c = 59
    · rw [if_pos ((low_semi c).2 h), if_pos h, ih]
      rfl
    · rw [if_neg (fun e => h ((low_semi c).1 e)), if_neg h, ih]
      have hne := sp_ne 59 l
      obtain ⟨a, t, e⟩ : ∃ a t, sp 59 l = a :: t := by
        cases hs : sp 59 l with
        | nil => exact absurd hs hne
        | cons a t => exact ⟨a, t, rfl⟩
      rw [e]
      rfl
theorem lowL_len (l : List UInt8) : (lowL l).length = l.length := by simp [lowL]
theorem signs_low (l : List UInt8) : signsB (lowL l) = signsB l := by
  unfold signsB
  rw [lowL_len]
  congr 1
  unfold lowL
  rw [List.all_map]
  have e : (signB ∘ low) = signB := funext fun c => low_sign c
  rw [e]
theorem word_low (l : List UInt8) : wordB (lowL l) = wordB l := by
  unfold wordB
  rw [lowL_len, signs_low]
  congr 2
  cases l with
  | nil => rfl
  | cons c l => exact low_letter c
theorem arcs_digits {l : List UInt8} {L : List Nat} (h : arcsO l = some L) : ∀ c ∈ l, c = 46 ∨ isDig c = true := by
  intro c hc
  rw [← (arcsO_some h).1] at hc
  unfold txA at hc
  have hd : ∀ n, ∀ x ∈ decDigits n, isDig x = true := fun n x hx => List.all_eq_true.1 (digs_dec n) x hx
  cases L with
  | nil => simp [jn] at hc
  | cons a L =>
    simp only [List.map_cons, jn, List.mem_append, List.mem_flatMap, List.mem_map] at hc
    rcases hc with hc | ⟨p, ⟨n, _, rfl⟩, hc⟩
    · exact .inr (hd a c hc)
    · rcases List.mem_cons.1 hc with hc | hc
      · exact .inl hc
      · exact .inr (hd n c hc)
theorem arcs_low (l : List UInt8) : (arcsO (lowL l)).isSome = (arcsO l).isSome := by
  by_cases h : lowL l = l
  · rw [h]
  · have h1 : arcsO l = none := by
      cases ha : arcsO l with
      | none => rfl
      | some L =>
        exfalso
        refine h ?_
        unfold lowL
        exact (List.map_congr_left (g := id) fun c hc => digit_low c (arcs_digits ha c hc)).trans (by simp)
    have h2 : arcsO (lowL l) = none := by
      cases ha : arcsO (lowL l) with
      | none => rfl
      | some L =>
        exfalso
        refine h ?_
        have h3 := arcs_digits ha
        unfold lowL at h3 ⊢
        exact (List.map_congr_left (g := id) fun c hc => low_digit c (h3 (low c) (List.mem_map_of_mem hc))).trans (by simp)
    rw [h1, h2]
/-- The text has a type and parts behind it. -/
theorem desc_of {l a : List UInt8} {T : List (List UInt8)} (h : sp 59 l = a :: T) : descO l =
    if 64 < l.length then none else if ((arcsO a).isSome || wordB a) && T.all signsB then some (lowL a, opts (T.map lowL)) else none := by
  unfold descO
  rw [sp_low, h]
  simp only [List.map_cons, List.headD_cons, List.tail_cons]
  rw [arcs_low, word_low, List.all_map]
  have e : (signsB ∘ lowL) = signsB := funext fun x => signs_low x
  rw [e]
theorem all_bad {T : List (List UInt8)} {p : List UInt8} (hp : p ∈ T) (h : signsB p = false) : T.all signsB = false := by
  rw [Bool.eq_false_iff]
  intro e
  rw [List.all_eq_true.1 e p hp] at h
  cases h
/-- One more option, if it is not there. -/
def addO (D : List (List UInt8)) (x : List UInt8) : List (List UInt8) := if x ∈ D then D else D ++ [x]
theorem addO_nodup {D : List (List UInt8)} {x : List UInt8} (h : D.Nodup) : (addO D x).Nodup := by
  unfold addO
  split
  · exact h
  · rename_i hx
    rw [List.nodup_append]
    exact ⟨h, by simp, fun a ha b hb e => hx (by
      rw [List.mem_singleton] at hb
      rw [← hb, ← e]
      exact ha)⟩
theorem addO_mem {D : List (List UInt8)} {x y : List UInt8} : y ∈ addO D x ↔ y ∈ D ∨ y = x := by
  unfold addO
  split
  · rename_i hx
    constructor
    · exact .inl
    · rintro (h | rfl)
      · exact h
      · exact hx
  · simp
theorem addO_len (D : List (List UInt8)) (x : List UInt8) : (addO D x).length ≤ D.length + 1 := by
  unfold addO
  split
  · omega
  · simp
end Go.Proofs.YtpmcdkalmdlahaaDoor
namespace Go.Proofs.YtpmcdkalmdlahaaDoor
open Go.RowKit Go.Lib

theorem ownO_ne {w : World} {base B : Nat} {v : Value} {l : List (List UInt8)} {o : Obj} (h : OwnO w base v l) (hb : w.heap[B]? = some o) (ho : ∀ cur fr, o ≠ .cells cur 9 fr) : some B ≠ v.ownBlock := by
  intro he
  rcases h.2 with ⟨rfl, _⟩ | ⟨g, cap, cur, rfl, _, hg, _⟩
  · simp [Value.ownBlock] at he
  · have e : B = g := by simpa [Value.ownBlock] using he
    subst e
    rw [hb] at hg
    injection hg with hg
    exact ho _ _ hg
theorem cells_ne {a b : Array Value} {t u : TypeId} {f g : Nat × Nat} (h : t ≠ u) : (Obj.cells a t f) ≠ .cells b u g := fun e => h (by cases e; rfl)
theorem append_strsK {w : World} {ops : Array Oper} {rest : List Oper} {o : Oper} {a : Act} {Q : Exit → Act → World → Prop} (hgd : o.guard = none) (s x : Operand)
    (ho : o.op = .call { callee := .builtin .append, args := #[s, x], argTypes := #[35, 35] })
    (base : Nat) (p : List UInt8) (v : Value) (l : List (List UInt8)) (n : Nat) (hn : l.length = n) (hs : a.eval s = v) (hown : OwnO (w.alloc (.cells #[.string (baO p)] 9)) base v l)
    (hx : a.eval x = .slice (some ⟨w.heap.size, 0, none⟩) 1 1) (hlen : n + 1 ≤ 2000000) (hbase : base ≤ w.heap.size)
    (h : ∀ g' c' w', OwnO w' base (.slice (some ⟨g', 0, none⟩) (n + 1) c') (l ++ [p]) → w.grownBy w' v.ownBlock → Below base w w' → wpList Tryd.prog ops Q rest (a.put o.dst (.slice (some ⟨g', 0, none⟩) (n + 1) c')) w') : wpList Tryd.prog ops Q (o :: rest) a (w.alloc (.cells #[.string (baO p)] 9)) := by
  obtain ⟨i0, hi, hz0, hz1, hz2⟩ := info_parts info_str
  subst hn
  have hb' : base ≤ (w.alloc (.cells #[.string (baO p)] 9)).heap.size := by simp; omega
  refine wpList_append_own _ hgd s x 35 ho base 9 i0 _ 1 16 Tryd.underlying35 hi hz0 hz1 hz2 rfl (by decide) v l.length (cellsO l) hs hown ⟨w.heap.size, 0, none⟩ 1 1 [.string (baO p)] hx rfl (news_one w _ 9) (by intro u hu; simp only [List.mem_singleton] at hu; subst hu; rfl)
    (by simp only [maxLen]; omega) (by omega) hb' fun v' w' hown' hg _ => ?_
  have ho' : OwnO w' base v' (l ++ [p]) := by
    unfold OwnO
    rw [List.length_append, show cellsO (l ++ [p]) = cellsO l ++ [.string (baO p)] by simp [cellsO]]
    exact hown'
  rcases ho'.form with ⟨_, h2⟩ | ⟨g', c', rfl, _⟩
  · exact absurd h2 (by simp)
  · rw [List.length_append] at ho' ⊢
    have hg0 : w.grownBy (w.alloc (.cells #[.string (baO p)] 9)) v.ownBlock := World.grownBy_alloc w _ _
    exact h g' c' w' ho' (hg0.trans hg) (((Below.refl _ _).alloc hbase _).grown hg hb' (fun k hk => (hown.lt k hk).1))
/-- Block Bo is a variable of type []string that holds D, all of the call's own; block Bm a variable that holds a map with just these keys. -/
def BoxS (w : World) (Bm Bo base : Nat) (D : List (List UInt8)) : Prop :=
  ∃ (v : Value) (mb : Nat) (DD : DataW Unit), w.heap[Bo]? = some (.cells #[v] 35 (0, 0)) ∧ w.heap[Bm]? = some (.cells #[.map (some mb)] 73 (0, 0)) ∧ base ≤ Bo ∧ base ≤ Bm ∧ base ≤ mb ∧
    OwnO w base v D ∧ w.ownsMap Tryd.prog 9 unitElem mb D.length DD ∧ Maps.IsMap DD ∧ ∀ x : List UInt8, Maps.has DD (.string x) = decide (x ∈ D)
/-- What a part does to the options. -/
def SeeS (p : List UInt8) (D : List (List UInt8)) (v : Bool) (w : World) (Bm Bo base : Nat) : Prop :=
  (v = true ∧ signsB p = true ∧ BoxS w Bm Bo base (addO D (lowL p))) ∨ (v = false ∧ signsB p = false)
theorem key_str : Maps.Keyed Tryd.prog 9 := Maps.string_keyed Tryd.underlying9
theorem zero_unit (w : World) : (zeroValue 74).run Tryd.prog w = .ok (.agg #[]) w := by kernel_rfl
set_option maxRecDepth 4000 in
set_option maxHeartbeats 1600000 in
theorem seeOpt (p : List UInt8) (Bm Bo base : Nat) (D : List (List UInt8)) (w : World) (hB : BoxS w Bm Bo base D) (hD : D.length ≤ 1000) (hp : p.length ≤ 1000) (hbase : base ≤ w.heap.size) :
    Calls Tryd.prog 49 #[.string (baO p), .pointer (some ⟨Bm, 0, none⟩), .pointer (some ⟨Bo, 0, none⟩)] w fun e w' => ∃ v, e = .returned (.bool v) ∧ SeeS p D v w' Bm Bo base ∧ Below base w w' := by
  obtain ⟨v0, mb, DD, b1, b2, b3, b4, b5, ho, hm, hmap, hhas⟩ := hB
  have CP := Lib.hid (plain_any (baO p) w (by rw [baO_size]; omega))
  rw [baO_list] at CP
  cases hsg : signsB p with
  | false =>
    rw [hsg] at CP
    replace hsg := Lib.hid hsg
    go_enter Tryd.func49, Tryd.ntmps49
    go_wp2_with fail
    refine CP.out.mono ?_
    rintro _ w2 ⟨rfl, rfl⟩
    dsimp only []
    go_wp2_with fail
    go_returns
    exact ⟨false, rfl, .inr ⟨rfl, hsg.out⟩, Below.refl _ _⟩
  | true =>
    rw [hsg] at CP
    have CL := Lib.hid (lower_any (baO p) w (by rw [baO_size]; omega))
    rw [baO_list] at CL
    replace hsg := Lib.hid hsg
    go_enter Tryd.func49, Tryd.ntmps49
    go_wp2_with fail
    refine CP.out.mono ?_
    rintro _ w2 ⟨rfl, rfl⟩
    dsimp only []
    go_wp2_with fail
    refine CL.out.mono ?_
    rintro _ w3 ⟨rfl, h3⟩
    obtain ⟨X, hX⟩ : ∃ X, X = lowL p := ⟨_, rfl⟩
    rw [← hX]
    have hXl : X.length ≤ 1000 := by rw [hX, lowL_len]; exact hp
    have hkey := WideMaps.keyOf_string_mk Tryd.underlying9 (s := baO X) (by rw [baO_size]; unfold maxLen; omega)
    rw [baO_list] at hkey
    have d2 := (h3.block Bm (Array.getElem?_eq_some_iff.1 b2).1).trans b2
    have d1 := (h3.block Bo (Array.getElem?_eq_some_iff.1 b1).1).trans b1
    have c2 := cell_of_one d2
    have hm3 : w3.ownsMap Tryd.prog 9 unitElem mb D.length DD := hm.kept (row := none) ⟨h3.os, h3.tape, h3.output, h3.size, fun k hk _ => h3.block k hk⟩ (by simp)
    have ho3 : OwnO w3 base v0 D := ho.below h3 (Nat.le_refl _)
    have hb3 : Below base w2 w3 := h3.mono hbase
    have hz3 : base ≤ w3.heap.size := Nat.le_trans hbase h3.size
    have hh := hhas X
    replace d1 := Lib.hid d1
    replace d2 := Lib.hid d2
    replace ho3 := Lib.hid ho3
    replace hm3 := Lib.hid hm3
    replace hb3 := Lib.hid hb3
    replace hX := Lib.hid hX
    replace b1 := Lib.hid b1
    replace b2 := Lib.hid b2
    clear ho hm h3
    by_cases hmem : X ∈ D
    · rw [decide_eq_true hmem] at hh
      have hadd : addO D (lowL p) = D := by rw [← hX.out]; exact if_pos hmem
      replace hadd := Lib.hid hadd
      dsimp only []
      go_wp2_with (at_lookup; refine wpList_lookup_own_unit _ rfl _ _ 73 rfl 9 74 key_str Tryd.underlying73 (zero_unit _) mb D.length DD rfl hm3.out _ _ rfl hkey ?_; rw [hh])
      go_returns
      exact ⟨true, rfl, .inl ⟨rfl, hsg.out, by
        rw [hadd.out]
        exact ⟨v0, mb, DD, (heap_alloc_old w3 _ _ (Array.getElem?_eq_some_iff.1 d1.out).1).trans d1.out, (heap_alloc_old w3 _ _ (Array.getElem?_eq_some_iff.1 d2.out).1).trans d2.out, b3, b4, b5, ho3.out.alloc _, hm3.out.alloc _, hmap, hhas⟩⟩, hb3.out.alloc hz3 _⟩
    · rw [decide_eq_false hmem] at hh
      have hadd : addO D (lowL p) = D ++ [X] := by rw [← hX.out]; exact if_neg hmem
      replace hadd := Lib.hid hadd
      obtain ⟨g3, hg3⟩ : ∃ g3, g3 = w3.heap.size := ⟨_, rfl⟩
      have q1 : (w3.alloc (.cells #[] 74)).heap[Bo]? = some (.cells #[v0] 35 (0, 0)) := (heap_alloc_old w3 _ _ (Array.getElem?_eq_some_iff.1 d1.out).1).trans d1.out
      have q2 : (w3.alloc (.cells #[] 74)).heap[Bm]? = some (.cells #[.map (some mb)] 73 (0, 0)) := (heap_alloc_old w3 _ _ (Array.getElem?_eq_some_iff.1 d2.out).1).trans d2.out
      have q3 := hm3.out.alloc (.cells #[] 74)
      have q4 := ho3.out.alloc (.cells #[] 74)
      have q5 := hb3.out.alloc hz3 (.cells #[] 74)
      have q6 : base ≤ (w3.alloc (.cells #[] 74)).heap.size := by simp; omega
      have n1 : ∀ W : World, W.ownsMap Tryd.prog 9 unitElem mb D.length DD → ∀ k v t, W.heap[k]? = some (.cells #[v] t (0, 0)) → k ≠ mb := by
        rintro W ⟨es, cl, h1, _⟩ k v t h2 rfl
        rw [h1] at h2
        injection h2 with h2
        cases h2
      have n2 := n1 _ q3 _ _ _ q1
      have n3 := n1 _ q3 _ _ _ q2
      have n4 : Bm ≠ Bo := by
        intro e
        subst e
        rw [q1] at q2
        injection q2 with q2
        injection q2 with _ q2 _
        exact absurd q2 (by decide)
      have n5 : v0.ownBlock = none ∨ v0.ownBlock ≠ some mb := by
        right
        intro e
        obtain ⟨es, cl, h1, _⟩ := q3
        exact ownO_ne q4 h1 (fun _ _ h => by cases h) e.symm
      have c2' := cell_of_one q2
      replace q1 := Lib.hid q1
      replace q2 := Lib.hid q2
      replace q3 := Lib.hid q3
      replace q4 := Lib.hid q4
      replace q5 := Lib.hid q5
      replace n1 := Lib.hid n1
      replace hg3 := Lib.hid hg3
      obtain ⟨m, hm⟩ : ∃ m, D.length = m := ⟨_, rfl⟩
      obtain ⟨A0, c0, hv0⟩ := show ∃ A0 c0, v0 = .slice A0 m c0 by
        rcases ho3.out.form with ⟨h1, h2⟩ | ⟨g, c, h1, _⟩
        · exact ⟨none, 0, by rw [h1, ← hm, h2]; rfl⟩
        · exact ⟨_, _, by rw [h1, hm]⟩
      subst hv0
      rw [hm] at hD
      replace hm := Lib.hid hm
      dsimp only []
      go_wp2_with (first
        | (at_lookup; refine wpList_lookup_own_unit _ rfl _ _ 73 rfl 9 74 key_str Tryd.underlying73 (zero_unit _) mb D.length DD rfl hm3.out _ _ rfl hkey ?_; rw [hh])
        | (at_mapUpdate; refine wpList_mapUpdate_in _ rfl _ _ _ 73 rfl 9 74 key_str Tryd.underlying73 unitElem mb D.length DD rfl q3.out (by rw [hm.out]; unfold maxLen; omega) _ _ (Lit.string X) rfl rfl hkey (.agg []) [] unitElem_mk ?_; intro w5 hm5 ht5
           have r1 := ((ht5.grown.block Bo (Array.getElem?_eq_some_iff.1 q1.out).1 (by simpa using n2)).trans q1.out)
           have r2 := ((ht5.grown.block Bm (Array.getElem?_eq_some_iff.1 q2.out).1 (by simpa using n3)).trans q2.out)
           have r4 : OwnO w5 base _ D := World.ownsRow.kept q4.out ht5.grown n5
           have r5 := q5.out.grown ht5.grown q6 (fun k hk => by injection hk with hk; omega)
           have r6 := r5.size
           have rc := cell_of_one r1
           have rf := free_of_one r1
           replace r1 := Lib.hid r1
           replace r2 := Lib.hid r2
           replace r4 := Lib.hid r4
           replace r5 := Lib.hid r5
           replace hm5 := Lib.hid hm5
           clear ht5)
        | (at_builtin; (refine append_strsK rfl (.tmp 24) (.tmp 26) rfl base X _ D m hm.out rfl (r4.out.alloc _) rfl (by omega) (by omega) ?_; intro g7 c7 w7 ho7 hg7 hb7; have s1 := (hg7.block Bo (Array.getElem?_eq_some_iff.1 r1.out).1 (ownO_ne r4.out r1.out (fun _ _ => cells_ne (by decide)))).trans r1.out; have s2 := (hg7.block Bm (Array.getElem?_eq_some_iff.1 r2.out).1 (ownO_ne r4.out r2.out (fun _ _ => cells_ne (by decide)))).trans r2.out; have s3 := hm5.out.kept hg7 (by obtain ⟨es, cl, h1, _⟩ := hm5.out; exact ownO_ne r4.out h1 (fun _ _ h => by cases h)); have s5 := r5.out.trans hb7; have sc := cell_of_one s1; have sf := free_of_one s1; replace s1 := Lib.hid s1; replace s2 := Lib.hid s2; replace s3 := Lib.hid s3; replace s5 := Lib.hid s5; replace ho7 := Lib.hid ho7; clear hg7 hb7)))
      go_returns
      refine ⟨true, rfl, .inl ⟨rfl, hsg.out, ?_⟩, s5.out.setCell b3 _⟩
      rw [hadd.out]
      refine ⟨_, mb, DD.put (.string X) (.agg []), one_setCell s1.out, (Below.heap_setCell w7 _ _ Bm n4).trans s2.out, b3, b4, b5, ownsRow_setCell_other (by have := ho7.out; rwa [show m = D.length from hm.out.symm] at this ⊢) (fun e => ownO_ne ho7.out s1.out (fun _ _ => cells_ne (by decide)) e.symm) _, ?_, ?_, ?_⟩
      · have := s3.out.setCell (a := ⟨Bo, 0, none⟩) (fun e => n2 e.symm) (.slice (some ⟨g7, 0, none⟩) (m + 1) c7)
        rw [List.length_append, List.length_singleton]
        exact this
      · obtain ⟨es, rfl⟩ := hmap
        exact ⟨_, rfl⟩
      · intro x
        by_cases hx : x = X
        · subst hx
          rw [Maps.has_put_same (k := .string x) hmap (by simp [WideAt.IsKeyLit])]
          simp
        · rw [Maps.has_put_other (by simpa using hx), hhas]
          simp [hx]
end Go.Proofs.YtpmcdkalmdlahaaDoor
namespace Go.Proofs.YtpmcdkalmdlahaaDoor
open Go.RowKit Go.Lib

theorem BoxS.below {w w' : World} {Bm Bo base : Nat} {D : List (List UInt8)} (h : BoxS w Bm Bo base D) (hb : Below w.heap.size w w') : BoxS w' Bm Bo base D := by
  obtain ⟨v, mb, DD, b1, b2, b3, b4, b5, ho, hm, h1, h2⟩ := h
  exact ⟨v, mb, DD, (hb.block Bo (Array.getElem?_eq_some_iff.1 b1).1).trans b1, (hb.block Bm (Array.getElem?_eq_some_iff.1 b2).1).trans b2, b3, b4, b5, ho.below hb (Nat.le_refl _),
    hm.kept (row := none) ⟨hb.os, hb.tape, hb.output, hb.size, fun k hk _ => hb.block k hk⟩ (by simp), h1, h2⟩
/-- What the visit of the parts leaves. -/
def VisS (l : List UInt8) (v : Bool) (w : World) (Bm Bo base : Nat) : Prop :=
  (v = true ∧ (∀ q ∈ sp 59 l, signsB q = true) ∧ ∃ D, D.Nodup ∧ (∀ x, x ∈ D ↔ x ∈ (sp 59 l).map lowL) ∧ D.length ≤ 1001 ∧ BoxS w Bm Bo base D) ∨ (v = false ∧ ∃ q ∈ sp 59 l, signsB q = false)
theorem alls_snoc {d : List (List UInt8)} {p : List UInt8} (h : ∀ q ∈ d, signsB q = true) (hp : signsB p = true) : ∀ q ∈ d ++ [p], signsB q = true := by
  intro q hq
  rcases List.mem_append.1 hq with hq | hq
  · exact h q hq
  · rw [List.mem_singleton.1 hq]
    exact hp
theorem mem_snoc {d D : List (List UInt8)} {p : List UInt8} (h : ∀ x, x ∈ D ↔ x ∈ d.map lowL) : ∀ x, x ∈ addO D (lowL p) ↔ x ∈ (d ++ [p]).map lowL := by
  intro x
  rw [addO_mem, h]
  simp
set_option maxRecDepth 4000 in
set_option maxHeartbeats 1600000 in
theorem visitOpts (l : List UInt8) (Bm Bo base : Nat) (w : World) (hl : l.length ≤ 1000) (hB : BoxS w Bm Bo base []) (hbs : base ≤ w.heap.size) :
    Calls Tryd.prog 40 #[.string (baO l), .string { data := #[59] }, .func (.func 49) #[] #[.pointer (some ⟨Bm, 0, none⟩), .pointer (some ⟨Bo, 0, none⟩)]] w fun e w' => ∃ v, e = .returned (.bool v) ∧ VisS l v w' Bm Bo base ∧ Below base w w' := by
  replace hB := Lib.hid hB
  go_enter Tryd.func40, Tryd.ntmps40
  go_wp2_with fail
  go_loopw [0] (fun sv wr => ∃ (d : List (List UInt8)) (r : List UInt8) (D : List (List UInt8)), sv = .string (baO r) ∧ d.length + r.length ≤ 1000 ∧ D.length ≤ d.length ∧ Hid (sp 59 l = d ++ sp 59 r) ∧ Hid (∀ q ∈ d, signsB q = true) ∧ Hid D.Nodup ∧ Hid (∀ x, x ∈ D ↔ x ∈ d.map lowL) ∧ Hid (BoxS wr Bm Bo base D) ∧ Hid (Below base w wr)) (fun sv _ => szO sv)
  case atStart => exact ⟨[], l, [], rfl, by simpa using hl, Nat.le_refl _, Lib.hid rfl, Lib.hid (by simp), Lib.hid List.nodup_nil, Lib.hid (by simp), hB, Lib.hid (Below.refl _ _)⟩
  case round =>
    obtain ⟨d, r, D, rfl, hr, hD, HS, HA, HN, HM, HBx, HB⟩ := hrel
    have hsz := HB.out.size
    have hbz := Nat.le_trans hbs hsz
    rcases part_cases 59 r with ⟨hm, hs⟩ | ⟨p, q, hr2, hm, hs⟩
    · have C1 := Lib.hid (cut_miss r 59 hm wr)
      have C2 := Lib.hid (seeOpt r Bm Bo base D wr HBx.out (by omega) (by omega) hbz)
      have HS2 := HS.out
      rw [hs] at HS2
      replace hs := Lib.hid hs
      replace HS2 := Lib.hid HS2
      go_wp2_with fail
      refine C1.out.mono ?_
      rintro _ w2 ⟨rfl, h2⟩
      subst w2
      dsimp only []
      go_wp2_with fail
      refine C2.out.mono ?_
      rintro _ w2 ⟨v, rfl, hq, hb2⟩
      replace hb2 := Lib.hid (HB.out.trans hb2)
      rcases hq with ⟨rfl, h1, h3⟩ | ⟨rfl, h1⟩
      · have hfin : Hid (VisS l true w2 Bm Bo base) := Lib.hid (.inl ⟨rfl, by rw [HS2.out]; exact alls_snoc HA.out h1, addO D (lowL r), addO_nodup HN.out, by rw [HS2.out]; exact mem_snoc HM.out, Nat.le_trans (addO_len _ _) (by omega), h3⟩)
        clear h1 h3
        dsimp only []
        go_wp2_with fail
        go_returns
        exact ⟨true, rfl, hfin.out, hb2.out⟩
      · have hfin : Hid (VisS l false w2 Bm Bo base) := Lib.hid (.inr ⟨rfl, r, by rw [HS2.out]; simp, h1⟩)
        clear h1
        dsimp only []
        go_wp2_with fail
        go_returns
        exact ⟨false, rfl, hfin.out, hb2.out⟩
    · have hrl : d.length + (p.length + 1 + q.length) ≤ 1000 := by
        rw [hr2] at hr
        simp at hr
        omega
      have hss : szO (.string (baO q)) < szO (.string (baO r)) := by
        show (baO q).size < (baO r).size
        rw [baO_size, baO_size, hr2]
        simp
        omega
      have C1 : Hid (Calls Tryd.prog 35 #[.string (baO r), .string { data := #[59] }] wr fun e w' => e = .returned (.tuple #[.string (baO p), .string (baO q), .bool true]) ∧ Below wr.heap.size wr w') := Lib.hid (by
        rw [hr2] at hr ⊢
        exact cut_hit p q 59 hm (by omega) wr)
      have HS2 := HS.out
      rw [hs] at HS2
      have HS3 : sp 59 l = (d ++ [p]) ++ sp 59 q := by rw [HS2]; simp
      replace hs := Lib.hid hs
      replace hr2 := Lib.hid hr2
      replace HS2 := Lib.hid HS2
      replace HS3 := Lib.hid HS3
      replace hss := Lib.hid hss
      go_wp2_with fail
      refine C1.out.mono ?_
      rintro _ w1 ⟨rfl, h1⟩
      have C2 := Lib.hid (seeOpt p Bm Bo base D w1 (HBx.out.below h1) (by omega) (by omega) (Nat.le_trans hbz h1.size))
      have HB1 := Lib.hid (HB.out.trans (h1.mono hbz))
      clear h1
      dsimp only []
      go_wp2_with fail
      refine C2.out.mono ?_
      rintro _ w2 ⟨v, rfl, hq, hb2⟩
      replace hb2 := Lib.hid (HB1.out.trans hb2)
      rcases hq with ⟨rfl, h1, h3⟩ | ⟨rfl, h1⟩
      · have h4 := Lib.hid (alls_snoc HA.out h1)
        have h5 := Lib.hid (mem_snoc (p := p) HM.out)
        have h6 := Lib.hid (addO_nodup (x := lowL p) HN.out)
        have h7 := addO_len D (lowL p)
        replace h3 := Lib.hid h3
        clear h1
        dsimp only []
        go_wp2_with fail
        go_roundw
        case rel => exact ⟨d ++ [p], q, addO D (lowL p), rfl, by rw [List.length_append, List.length_singleton]; omega, by rw [List.length_append, List.length_singleton]; omega, HS3, h4, h6, h5, h3, hb2⟩
        case measure => exact hss.out
      · have hfin : Hid (VisS l false w2 Bm Bo base) := Lib.hid (.inr ⟨rfl, p, by rw [HS2.out]; simp, h1⟩)
        clear h1
        dsimp only []
        go_wp2_with fail
        go_returns
        exact ⟨false, rfl, hfin.out, hb2.out⟩
def OptQ (l : List UInt8) (base : Nat) (e : Ending) (w' : World) : Prop :=
  ((∃ q ∈ sp 59 l, signsB q = false) ∧ e = .returned (.tuple #[.slice none 0 0, .bool false])) ∨
  ((∀ q ∈ sp 59 l, signsB q = true) ∧ ∃ A c, e = .returned (.tuple #[.slice A (opts ((sp 59 l).map lowL)).length c, .bool true]) ∧ OwnO w' base (.slice A (opts ((sp 59 l).map lowL)).length c) (opts ((sp 59 l).map lowL)))
theorem boxS_new (w : World) : BoxS (((w.alloc (.cells #[.slice none 0 0] 35)).alloc (.map #[] 0)).alloc (.cells #[.map (some (w.heap.size + 1))] 73)) (w.heap.size + 2) w.heap.size w.heap.size [] := by
  have z1 : (w.alloc (.cells #[.slice none 0 0] 35)).heap.size = w.heap.size + 1 := by simp
  have z2 : ((w.alloc (.cells #[.slice none 0 0] 35)).alloc (.map #[] 0)).heap.size = w.heap.size + 2 := by simp
  have h1 := heap_alloc_new w (.cells #[.slice none 0 0] 35)
  have h2 := heap_alloc_new ((w.alloc (.cells #[.slice none 0 0] 35)).alloc (.map #[] 0)) (.cells #[.map (some (w.heap.size + 1))] 73)
  rw [z2] at h2
  have h3 := World.ownsMap_made (H := Unit) (w.alloc (.cells #[.slice none 0 0] 35)) Tryd.prog 9 unitElem
  rw [z1] at h3
  refine ⟨.slice none 0 0, w.heap.size + 1, .map [], ?_, h2, Nat.le_refl _, by omega, by omega, OwnO.nil _ _, h3.alloc _, Maps.isMap_empty, fun x => by simp [Maps.has]⟩
  exact (heap_alloc_old _ _ _ (by rw [z2]; omega)).trans ((heap_alloc_old _ _ _ (by rw [z1]; omega)).trans h1)
set_option maxRecDepth 8000 in
set_option maxHeartbeats 2000000 in
theorem opts_any (s : ByteArray) (w : World) (hs : s.size ≤ 1000) :
    Calls Tryd.prog 36 #[.string s] w fun e w' => OptQ s.data.toList w.heap.size e w' ∧ Below w.heap.size w w' := by
  obtain ⟨l, rfl⟩ : ∃ l, s = baO l := ⟨s.data.toList, rfl⟩
  rw [baO_list]
  rw [baO_size] at hs
  have hmm := @run_makeMap Tryd.prog
  have hal : Below w.heap.size w (((w.alloc (.cells #[.slice none 0 0] 35)).alloc (.map #[] 0)).alloc (.cells #[.map (some (w.heap.size + 1))] 73)) :=
    (((Below.refl _ _).alloc (Nat.le_refl _) _).alloc (by simp) _).alloc (by simp; omega) _
  have CV := Lib.hid (visitOpts l (w.heap.size + 2) w.heap.size w.heap.size _ hs (boxS_new w) hal.size)
  replace hal := Lib.hid hal
  go_enter Tryd.func36, Tryd.ntmps36
  go_wp2_with fail
  refine CV.out.mono ?_
  rintro _ w2 ⟨v, rfl, hq, hb2⟩
  replace hb2 := Lib.hid (hal.out.trans hb2)
  rcases hq with ⟨rfl, h1, D, h2, h3, h4, hB⟩ | ⟨rfl, q, h1, h2⟩
  · obtain ⟨u, mb, DD, b1, _, _, _, _, ho, _⟩ := hB
    have hc := cell_of_one b1
    have hne : D ≠ [] := by
      intro e
      have hx := sp_ne 59 l
      cases hsp : sp 59 l with
      | nil => exact hx hsp
      | cons a T =>
        have := (h3 (lowL a)).2 (by rw [hsp]; simp)
        rw [e] at this
        cases this
    have hso := sort_opts D ((sp 59 l).map lowL) h2 h3
    obtain ⟨O, hO⟩ : ∃ O, O = opts ((sp 59 l).map lowL) := ⟨_, rfl⟩
    rw [← hO] at hso
    have hlen : O.length = D.length := by rw [← hso, List.length_mergeSort]
    obtain ⟨_, hx⟩ := ho
    rcases hx with ⟨_, h5⟩ | ⟨g, cap, cur, rfl, hbs, hg, k1, k2, k3, k4⟩
    · exact absurd (List.eq_nil_of_length_eq_zero h5) hne
    · rw [Nat.mul_one] at k4
      have hH : Go.Sort.Holds encStr w2 g 0 D.toArray := holds_of_block hg k4
      have CS := Tryd.slices_Sort_string g 0 cap D w2 hH (Array.getElem?_eq_some_iff.1 hg).1 (by omega)
      rw [show (D.mergeSort fun x y => decide (x ≤ y)) = O from hso] at CS
      obtain ⟨m, hm⟩ : ∃ m, m = D.length := ⟨_, rfl⟩
      rw [← hm] at CS hc hlen
      have hgB : w.heap.size ≠ g := by
        intro e
        rw [e] at b1
        rw [b1] at hg
        injection hg with hg
        exact cells_ne (by decide) hg
      have HR : Hid (∀ n os, ∃ W, W = Sort.grow (Sort.putRow encStr (Sort.ahead w2 n) g 0 O.toArray) os ∧ OwnO W w.heap.size (.slice (some ⟨g, 0, none⟩) m cap) O ∧ Below w.heap.size w W ∧ W.heap[w.heap.size]? = w2.heap[w.heap.size]?) := Lib.hid fun n os => by
        have hr1 := ownsRow_sorted (n := n) (os := os) (ss := D) (ts := O) (by rw [hlen, hm]) hbs hg k1 k2 (by rw [k3])
        have hgr := grownBy_sorted (w := w2) (g := g) (n := n) (os := os) O.toArray
        refine ⟨_, rfl, ?_, hb2.out.grown hgr hb2.out.size (fun k hk => by injection hk with hk; omega), hgr.block _ (Array.getElem?_eq_some_iff.1 b1).1 (by simpa using hgB)⟩
        unfold OwnO
        rw [hlen, hm]
        exact hr1
      replace CS := Lib.hid CS
      replace hm := Lib.hid hm
      replace hO := Lib.hid hO
      replace hlen := Lib.hid hlen
      replace h1 := Lib.hid h1
      replace b1 := Lib.hid b1
      clear hH k1 k2 k3 k4 hg h2 h3 hso
      dsimp only []
      go_wp2_with fail
      refine CS.out.mono ?_
      rintro _ w3 ⟨rfl, n, os, hw3⟩
      obtain ⟨W, hW, hO3, hB3, hk3⟩ := HR.out n os
      rw [← hW] at hw3
      subst hw3
      have hc3 := cell_of_one (hk3.trans b1.out)
      replace hO3 := Lib.hid hO3
      replace hB3 := Lib.hid hB3
      clear hW hk3 hc
      dsimp only []
      go_wp2_with fail
      go_returns
      refine ⟨.inr ⟨h1.out, some ⟨g, 0, none⟩, cap, ?_, ?_⟩, hB3.out⟩
      · rw [← hO.out, hlen.out, hm.out]
        rfl
      · rw [← hO.out, hlen.out]
        exact hO3.out
  · have hfin : Hid (OptQ l w.heap.size (.returned (.tuple #[.slice none 0 0, .bool false])) w2) := Lib.hid (.inl ⟨⟨q, h1, h2⟩, rfl⟩)
    clear h1 h2
    dsimp only []
    go_wp2_with fail
    go_returns
    exact ⟨hfin.out, hb2.out⟩
end Go.Proofs.YtpmcdkalmdlahaaDoor
namespace Go.Proofs.YtpmcdkalmdlahaaDoor
open Go.RowKit Go.Lib

theorem cut_desc (l : List UInt8) (w : World) (hl : l.length ≤ 1000) : ∃ (p q : List UInt8) (m : Bool), (Calls Tryd.prog 35 #[.string (baO l), .string { data := #[59] }] w fun e w' => e = .returned (.tuple #[.string (baO p), .string (baO q), .bool m]) ∧ Below w.heap.size w w') ∧ sp 59 l = p :: (if m = true then sp 59 q else []) ∧ p.length ≤ 1000 ∧ q.length ≤ 1000 := by
  rcases part_cases 59 l with ⟨hm, hs⟩ | ⟨p, q, hr, hm, hs⟩
  · refine ⟨l, [], false, (cut_miss l 59 hm w).mono fun e w' ⟨h1, h2⟩ => ⟨h1, h2 ▸ Below.refl _ _⟩, hs, hl, by simp⟩
  · refine ⟨p, q, true, ?_, hs, ?_, ?_⟩
    · subst hr
      exact cut_hit p q 59 hm (by omega) w
    · rw [hr] at hl
      simp at hl
      omega
    · rw [hr] at hl
      simp at hl
      omega
/-- What Describe answers. -/
def DesQ (l : List UInt8) (e : Ending) (w' : World) : Prop := ∃ A c, e = .returned (.tuple #[.string (baO (deO l).1), .slice A (deO l).2.1.length c, .bool (deO l).2.2]) ∧ SrcO w' w'.heap.size A c (deO l).2.1
theorem DesQ.no {l : List UInt8} {w' : World} (h : descO l = none) : DesQ l (.returned (.tuple #[.string ⟨#[]⟩, .slice none 0 0, .bool false])) w' := by
  unfold DesQ
  rw [deO_none h]
  exact ⟨none, 0, rfl, SrcO.none_ _ _⟩
theorem DesQ.yes {l a : List UInt8} {O : List (List UInt8)} {A : Option Addr} {n c : Nat} {w' : World} (h : descO l = some (a, O)) (hn : O.length = n) (hs : SrcO w' w'.heap.size A c O) : DesQ l (.returned (.tuple #[.string (baO a), .slice A n c, .bool true])) w' := by
  unfold DesQ
  rw [deO_some h]
  subst hn
  exact ⟨A, c, rfl, hs⟩
set_option maxRecDepth 8000 in
set_option maxHeartbeats 4000000 in
theorem describe_any (s : ByteArray) (w : World) (hs : s.size ≤ 1000) :
    Calls Tryd.prog 17 #[.string s] w fun e w' => DesQ s.data.toList e w' ∧ Below w.heap.size w w' := by
  obtain ⟨l, rfl⟩ : ∃ l, s = baO l := ⟨s.data.toList, rfl⟩
  rw [baO_list]
  rw [baO_size] at hs
  obtain ⟨p, q, m, CC, hsp, hp, hq⟩ := cut_desc l w hs
  have hd := desc_of hsp
  have hsz := baO_size l
  have CN := fun W => numeric_any (baO p) W (by rw [baO_size]; exact hp)
  have CW := fun W => word_any (baO p) W (by rw [baO_size]; omega)
  have CO := fun W => opts_any (baO q) W (by rw [baO_size]; exact hq)
  have CL := fun W => lower_any (baO p) W (by rw [baO_size]; omega)
  simp only [baO_list] at CN CW CO CL
  replace CC := Lib.hid CC
  replace CL := Lib.hid CL
  replace hsp := Lib.hid hsp
  by_cases hbig : 64 < l.length
  · rw [if_pos hbig] at hd
    have k1 : (64 : Int) < ((baO l).size : Int) := by omega
    have k2 : decide ((64 : Int) < ((baO l).size : Int)) = true := decide_eq_true k1
    replace hd := Lib.hid hd
    replace hsz := Lib.hid hsz
    replace CN := Lib.hid CN
    replace CW := Lib.hid CW
    replace CO := Lib.hid CO
    go_enter Tryd.func17, Tryd.ntmps17
    go_wp2_with fail
    refine CC.out.mono ?_
    rintro _ w1 ⟨rfl, h1⟩
    have HB1 := Lib.hid h1
    clear h1
    dsimp only []
    go_wp2_with fail
    go_returns
    exact ⟨DesQ.no hd.out, HB1.out⟩
  · rw [if_neg hbig] at hd
    have k1 : ¬ ((64 : Int) < ((baO l).size : Int)) := by omega
    have k2 : decide ((64 : Int) < ((baO l).size : Int)) = false := decide_eq_false k1
    replace hsz := Lib.hid hsz
    cases ha : (arcsO p).isSome with
    | true =>
      rw [ha, Bool.true_or, Bool.true_and] at hd
      rw [ha] at CN
      replace hd := Lib.hid hd
      replace CN := Lib.hid CN
      replace CW := Lib.hid CW
      replace CO := Lib.hid CO
      cases m with
      | false =>
        have hd2 : descO l = some (lowL p, []) := by rw [hd.out]; rfl
        replace hd2 := Lib.hid hd2
        go_enter Tryd.func17, Tryd.ntmps17
        go_wp2_with fail
        refine CC.out.mono ?_
        rintro _ w1 ⟨rfl, h1⟩
        have HB1 := Lib.hid h1
        clear h1
        dsimp only []
        go_wp2_with fail
        refine (CN.out _).mono ?_
        rintro _ w2 ⟨rfl, h2⟩
        have HB2 := Lib.hid (HB1.out.trans (h2.mono HB1.out.size))
        clear h2
        dsimp only []
        go_wp2_with fail
        refine (CL.out _).mono ?_
        rintro _ w5 ⟨rfl, h5⟩
        have HB5 := Lib.hid (HB2.out.trans (h5.mono HB2.out.size))
        clear h5
        dsimp only []
        go_wp2_with fail
        go_returns
        exact ⟨DesQ.yes hd2.out rfl (SrcO.none_ _ _), HB5.out⟩
      | true =>
        have hd1 : descO l = if (sp 59 q).all signsB = true then some (lowL p, opts ((sp 59 q).map lowL)) else none := hd.out
        replace hd1 := Lib.hid hd1
        clear hd
        go_enter Tryd.func17, Tryd.ntmps17
        go_wp2_with fail
        refine CC.out.mono ?_
        rintro _ w1 ⟨rfl, h1⟩
        have HB1 := Lib.hid h1
        clear h1
        dsimp only []
        go_wp2_with fail
        refine (CN.out _).mono ?_
        rintro _ w2 ⟨rfl, h2⟩
        have HB2 := Lib.hid (HB1.out.trans (h2.mono HB1.out.size))
        clear h2
        dsimp only []
        go_wp2_with fail
        refine (CO.out _).mono ?_
        rintro _ w4 ⟨h3, h4⟩
        have HB4 := Lib.hid (HB2.out.trans (h4.mono HB2.out.size))
        have hz4 := h4.size
        clear h4
        rcases h3 with ⟨⟨z, z1, z2⟩, rfl⟩ | ⟨z1, A, c, rfl, ho⟩
        · have hd2 : descO l = none := by
            rw [hd1.out, all_bad z1 z2]
            rfl
          replace hd2 := Lib.hid hd2
          clear z1 z2
          dsimp only []
          go_wp2_with fail
          go_returns
          exact ⟨DesQ.no hd2.out, HB4.out⟩
        · have hd2 : descO l = some (lowL p, opts ((sp 59 q).map lowL)) := by
            rw [hd1.out, List.all_eq_true.2 z1]
            rfl
          obtain ⟨O, hO⟩ : ∃ O, O = opts ((sp 59 q).map lowL) := ⟨_, rfl⟩
          rw [← hO] at hd2 ho ⊢
          obtain ⟨n, hn⟩ : ∃ n, O.length = n := ⟨_, rfl⟩
          rw [hn] at ho ⊢
          have hs4 := Lib.hid ho.src
          replace hd2 := Lib.hid hd2
          replace hO := Lib.hid hO
          replace hn := Lib.hid hn
          clear z1 ho
          dsimp only []
          go_wp2_with fail
          refine (CL.out _).mono ?_
          rintro _ w5 ⟨rfl, h5⟩
          have HB5 := Lib.hid (HB4.out.trans (h5.mono HB4.out.size))
          have hs5 := Lib.hid (hs4.out.next h5)
          clear h5
          dsimp only []
          go_wp2_with fail
          go_returns
          exact ⟨DesQ.yes hd2.out hn.out hs5.out, HB5.out⟩
    | false =>
      rw [ha, Bool.false_or] at hd
      rw [ha] at CN
      cases hw : wordB p with
      | false =>
        rw [hw, Bool.false_and, if_neg (by decide)] at hd
        rw [hw] at CW
        replace hd := Lib.hid hd
        replace CN := Lib.hid CN
        replace CW := Lib.hid CW
        replace CO := Lib.hid CO
        go_enter Tryd.func17, Tryd.ntmps17
        go_wp2_with fail
        refine CC.out.mono ?_
        rintro _ w1 ⟨rfl, h1⟩
        have HB1 := Lib.hid h1
        clear h1
        dsimp only []
        go_wp2_with fail
        refine (CN.out _).mono ?_
        rintro _ w2 ⟨rfl, h2⟩
        have HB2 := Lib.hid (HB1.out.trans (h2.mono HB1.out.size))
        clear h2
        dsimp only []
        go_wp2_with fail
        refine (CW.out _).mono ?_
        rintro _ w3 ⟨rfl, e3⟩
        subst w3
        dsimp only []
        go_wp2_with fail
        go_returns
        exact ⟨DesQ.no hd.out, HB2.out⟩
      | true =>
        rw [hw, Bool.true_and] at hd
        rw [hw] at CW
        replace hd := Lib.hid hd
        replace CN := Lib.hid CN
        replace CW := Lib.hid CW
        replace CO := Lib.hid CO
        cases m with
        | false =>
          have hd2 : descO l = some (lowL p, []) := by rw [hd.out]; rfl
          replace hd2 := Lib.hid hd2
          go_enter Tryd.func17, Tryd.ntmps17
          go_wp2_with fail
          refine CC.out.mono ?_
          rintro _ w1 ⟨rfl, h1⟩
          have HB1 := Lib.hid h1
          clear h1
          dsimp only []
          go_wp2_with fail
          refine (CN.out _).mono ?_
          rintro _ w2 ⟨rfl, h2⟩
          have HB2 := Lib.hid (HB1.out.trans (h2.mono HB1.out.size))
          clear h2
          dsimp only []
          go_wp2_with fail
          refine (CW.out _).mono ?_
          rintro _ w3 ⟨rfl, e3⟩
          subst w3
          dsimp only []
          go_wp2_with fail
          refine (CL.out _).mono ?_
          rintro _ w5 ⟨rfl, h5⟩
          have HB5 := Lib.hid (HB2.out.trans (h5.mono HB2.out.size))
          clear h5
          dsimp only []
          go_wp2_with fail
          go_returns
          exact ⟨DesQ.yes hd2.out rfl (SrcO.none_ _ _), HB5.out⟩
        | true =>
          have hd1 : descO l = if (sp 59 q).all signsB = true then some (lowL p, opts ((sp 59 q).map lowL)) else none := hd.out
          replace hd1 := Lib.hid hd1
          clear hd
          go_enter Tryd.func17, Tryd.ntmps17
          go_wp2_with fail
          refine CC.out.mono ?_
          rintro _ w1 ⟨rfl, h1⟩
          have HB1 := Lib.hid h1
          clear h1
          dsimp only []
          go_wp2_with fail
          refine (CN.out _).mono ?_
          rintro _ w2 ⟨rfl, h2⟩
          have HB2 := Lib.hid (HB1.out.trans (h2.mono HB1.out.size))
          clear h2
          dsimp only []
          go_wp2_with fail
          refine (CW.out _).mono ?_
          rintro _ w3 ⟨rfl, e3⟩
          subst w3
          dsimp only []
          go_wp2_with fail
          refine (CO.out _).mono ?_
          rintro _ w4 ⟨h3, h4⟩
          have HB4 := Lib.hid (HB2.out.trans (h4.mono HB2.out.size))
          have hz4 := h4.size
          clear h4
          rcases h3 with ⟨⟨z, z1, z2⟩, rfl⟩ | ⟨z1, A, c, rfl, ho⟩
          · have hd2 : descO l = none := by
              rw [hd1.out, all_bad z1 z2]
              rfl
            replace hd2 := Lib.hid hd2
            clear z1 z2
            dsimp only []
            go_wp2_with fail
            go_returns
            exact ⟨DesQ.no hd2.out, HB4.out⟩
          · have hd2 : descO l = some (lowL p, opts ((sp 59 q).map lowL)) := by
              rw [hd1.out, List.all_eq_true.2 z1]
              rfl
            obtain ⟨O, hO⟩ : ∃ O, O = opts ((sp 59 q).map lowL) := ⟨_, rfl⟩
            rw [← hO] at hd2 ho ⊢
            obtain ⟨n, hn⟩ : ∃ n, O.length = n := ⟨_, rfl⟩
            rw [hn] at ho ⊢
            have hs4 := Lib.hid ho.src
            replace hd2 := Lib.hid hd2
            replace hO := Lib.hid hO
            replace hn := Lib.hid hn
            clear z1 ho
            dsimp only []
            go_wp2_with fail
            refine (CL.out _).mono ?_
            rintro _ w5 ⟨rfl, h5⟩
            have HB5 := Lib.hid (HB4.out.trans (h5.mono HB4.out.size))
            have hs5 := Lib.hid (hs4.out.next h5)
            clear h5
            dsimp only []
            go_wp2_with fail
            go_returns
            exact ⟨DesQ.yes hd2.out hn.out hs5.out, HB5.out⟩
end Go.Proofs.YtpmcdkalmdlahaaDoor
namespace Go.Proofs.YtpmcdkalmdlahaaDoor
open Go.RowKit Go.Lib

theorem ohyp (W : World) : OHyp W where
  numeric s w' hs _ := numeric_any s w' hs
  word s w' hs _ := (word_any s w' (by omega)).mono fun _ _ ⟨h1, h2⟩ => ⟨h1, h2 ▸ Below.refl _ _⟩
  lower s w' hs _ := lower_any s w' (by omega)
  put s w' hs _ := put_o s w' hs
  describe s w' hs _ := (describe_any s w' hs).mono fun _ _ ⟨⟨A, c, h1, h2⟩, h3⟩ => ⟨A, c, h1, h2, h3⟩
  text s A c N L w' hL hN hs hsrc _ := text_any s A c N L w' hL hN hs hsrc
theorem oread (W : World) (h : Tab W) : OReadH W where
  read A c N l w' hN hN3 hb hs hB := read_any A c N l w' hN hN3 hb hs (h.below hB)
end Go.Proofs.YtpmcdkalmdlahaaDoor
