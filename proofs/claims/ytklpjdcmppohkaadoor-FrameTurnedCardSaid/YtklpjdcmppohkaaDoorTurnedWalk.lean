/-
  FrameTurned: its walk.
-/
import Derived.Test.YtklpjdcmppohkaaDoorFSeal
import Derived.Test.YtklpjdcmppohkaaDoorTurn
import Derived.Lib.AppendStr
import Derived.Laws.OwnMore
namespace Go.Proofs.YtklpjdcmppohkaaDoor
open Go.RowKit

theorem add_g (g q : Nat) : (⟨g, 0, none⟩ : Addr).add q = ⟨g, q, none⟩ := by
  unfold Addr.add
  by_cases h : q = 0
  · rw [if_pos h, h]
  · rw [if_neg h, Nat.zero_add]
theorem bits_xor8 (v r : Nat) (hv : v < 256) (hr : r < 8) : bits .xor .u8 (v : Int) (2 ^ r % 256) = ((v ^^^ 2 ^ r : Nat) : Int) := by
  have hp : 2 ^ r < 256 := Nat.pow_lt_pow_right (m := r) (n := 8) (by omega) hr
  have e0 : ((2 : Int) ^ r % 256) = ((2 ^ r : Nat) : Int) := by
    have : ((2 : Int) ^ r) = ((2 ^ r : Nat) : Int) := by simp
    rw [this]
    exact Int.emod_eq_of_lt (Int.natCast_nonneg _) (Int.ofNat_lt.2 hp)
  have eo : ∀ a : Nat, a < 256 → (BitVec.ofInt 8 (a : Int)).toNat = a := fun a h => by
    rw [BitVec.toNat_ofInt]
    omega
  rw [e0]
  show IntKind.u8.wrap ((BitVec.ofInt 8 (v : Int) ^^^ BitVec.ofInt 8 ((2 ^ r : Nat) : Int)).toNat : Int) = _
  rw [BitVec.toNat_xor, eo v hv, eo _ hp]
  have := Nat.xor_lt_two_pow (n := 8) hv hp
  have e : ((v ^^^ 2 ^ r : Nat) : Int) % 256 = ((v ^^^ 2 ^ r : Nat) : Int) := by omega
  exact e
theorem cellsB_set (l : List Nat) (q x : Nat) : (cellsB l).set q (.int .u8 (x : Int)) = cellsB (l.set q x) := by
  unfold cellsB
  rw [List.map_set]
theorem own_of_len {w : World} {base : Nat} {v : Value} {n : Nat} {l : List Nat} (hn : l.length = n) (h : w.ownsRow base 5 1 v n (cellsB l)) : Own w base v l := by
  subst hn
  exact h
theorem append_behind {w : World} {ops : Array Oper} {rest : List Oper} {o : Oper} {a : Act} {Q : Exit → Act → World → Prop} (hgd : o.guard = none) (s : Operand)
    (ho : o.op = .call { callee := .builtin .append, args := #[s, .const (.string ⟨#[98, 101, 104, 105, 110, 100]⟩)], argTypes := #[23, 9] })
    (base : Nat) (v : Value) (n : Nat) (l : List Nat) (hs : a.eval s = v) (hown : w.ownsRow base 5 1 v n (cellsB l)) (hlen : n + 6 ≤ 2000000) (hbase : base ≤ w.heap.size)
    (h : ∀ A' c' w', Own w' base (.slice A' (n + 6) c') (l ++ [98, 101, 104, 105, 110, 100]) → Below base w w' → wpList Tryd.prog ops Q rest (a.put o.dst (.slice A' (n + 6) c')) w') : wpList Tryd.prog ops Q (o :: rest) a w := by
  obtain ⟨i0, hi, hz0, hz1, hz2⟩ := info_parts info_u8
  refine Lib.wpList_append_own_string w hgd s _ 23 9 ho base 5 i0 Tryd.underlying23 Tryd.underlying9 hi hz0 hz1 hz2 v n (cellsB l) hs hown ⟨#[98, 101, 104, 105, 110, 100]⟩ rfl (by show n + 6 ≤ maxLen; unfold maxLen; omega) (by show n + 6 ≤ _; omega) hbase fun v' w' hown' hg _ => ?_
  have hl : n = l.length := by
    have := hown.1
    rw [cellsB_len, Nat.mul_one] at this
    exact this.symm
  have ho' : Own w' base v' (l ++ [98, 101, 104, 105, 110, 100]) := by
    unfold Own
    rw [List.length_append, cellsB_app, ← hl]
    exact hown'
  obtain ⟨A', c', rfl, _⟩ := ho'.form
  rw [List.length_append, ← hl] at ho' ⊢
  exact h A' c' w' ho' ((Below.refl _ _).grown hg hbase (fun k hk => (hown.lt k hk).1))
theorem own_len {w : World} {base : Nat} {A : Option Addr} {n c : Nat} {l : List Nat} (h : Own w base (.slice A n c) l) : w.ownsRow base 5 1 (.slice A n c) n (cellsB l) := by
  have hn : n = l.length := by
    obtain ⟨A', c', hv, _⟩ := h.form
    injection hv
  subst hn
  exact h

set_option maxRecDepth 8000 in
set_option maxHeartbeats 1600000 in
theorem turned_in (A : Option Addr) (cp : Nat) (n : Nat) (h0 : n ≤ 3000) (l : List Nat) (at0 : Int) (b : Nat) (w : World) (hs : Src w w.heap.size A cp l) (hn : l.length = n) (hby : ∀ x ∈ l, x < 256) (hb : b < 4294967296) (tab : Tab w) :
    Calls Tryd.prog 6 #[.slice A n cp, .int .i64 at0, .int .u32 (b : Int)] w fun e w' => e = .returned (.bool true) ∧ Below w.heap.size w w' := by
  have k0 : ¬ (3000 < (n : Int)) := by omega
  have C1 : Hid (Calls Tryd.prog 9 #[.slice A n cp] w fun e w'' => ∃ A' c' N, e = .returned (.tuple #[.slice A' N c', .int .i64 0]) ∧ (N : Int) = (n : Int) + 8 ∧ Own w'' w.heap.size (.slice A' N c') (sealP l) ∧ Below w.heap.size w w'') := Lib.hid
    ((seal_any A cp n l w hs hn (by omega) hby tab).mono fun e w'' ⟨A', c', h1, h2, h3⟩ => ⟨A', c', _, h1, by omega, h2, h3⟩)
  have hXl : (sealP l).length = l.length + 8 := sealP_len l
  have hXb : ∀ x ∈ sealP l, x < 256 := sealP_byte l hby
  obtain ⟨t, ht⟩ : ∃ t, t = at0.tmod (8 * (n : Int) + 1) := ⟨_, rfl⟩
  have ht1 : -((8 * (n : Int) + 1)) < t ∧ t < (8 * (n : Int) + 1) := by
    rw [ht]
    have h1 := Int.tmod_lt_of_pos at0 (show (0 : Int) < (8 * (n : Int) + 1) by omega)
    have h2 := Int.tmod_lt_of_pos (-at0) (show (0 : Int) < (8 * (n : Int) + 1) by omega)
    rw [Int.neg_tmod] at h2
    exact ⟨by omega, h1⟩
  have f1 : at0.tmod (8 * (n : Int) + 1) = t := ht.symm
  obtain ⟨d, hd⟩ : ∃ d : Nat, (t + (8 * (n : Int) + 1)).tmod (8 * (n : Int) + 1) = (d : Int) := ⟨((t + (8 * (n : Int) + 1)).tmod (8 * (n : Int) + 1)).toNat, by
    have := Int.tmod_nonneg (8 * (n : Int) + 1) (show (0 : Int) ≤ t + (8 * (n : Int) + 1) by omega)
    omega⟩
  have hd2 : d < 8 * n + 1 := by
    have := Int.tmod_lt_of_pos (t + (8 * (n : Int) + 1)) (show (0 : Int) < (8 * (n : Int) + 1) by omega)
    rw [hd] at this
    omega
  have HT : Hid (∀ m, (openP (turn (sealP l) (32 + d) b 32 ++ m)).2.2 = if b = 0 then 0 else 12) := Lib.hid fun m => openP_turned l m (32 + d) b (by omega) hby hb (by omega) (by omega)
  obtain ⟨X, hX⟩ : ∃ X, X = sealP l := ⟨_, rfl⟩
  rw [← hX] at C1 HT hXl hXb
  rw [hn] at hXl
  have hbit : Hid (∀ i, i < 32 → bits .and .u32 ((b : Int) / 2 ^ i) 1 = ((b / 2 ^ i % 2 : Nat) : Int)) := Lib.hid fun i _ => by
    have e : ((b : Int) / 2 ^ i) = ((b / 2 ^ i : Nat) : Int) := by simp
    rw [e]
    exact bits_and32 _ (by have := Nat.div_le_self b (2 ^ i); omega)
  have e11 := hX
  replace hX := Lib.hid hX
  replace e11 := Lib.hid e11
  replace hXb := Lib.hid hXb
  replace hXl := Lib.hid hXl
  replace hs := Lib.hid hs
  replace hby := Lib.hid hby
  replace hn := Lib.hid hn
  replace ht := Lib.hid ht
  obtain ⟨ht1, ht2⟩ := ht1
  have htab := Lib.hid tab
  clear tab
  go_enter Tryd.func6, Tryd.ntmps6
  go_wp2_with fail
  refine C1.out.mono ?_
  rintro _ w1 ⟨A1, c1, N, rfl, hN, ho1, hb1⟩
  have B1 := Lib.hid hb1
  have O1 := Lib.hid ho1
  clear hb1 ho1
  dsimp only []
  go_wp2_with fail
  obtain ⟨g, rfl⟩ : ∃ g, A1 = some ⟨g, 0, none⟩ := by
    rcases O1.out.2 with ⟨_, h0⟩ | ⟨g, cap, cur, hv, _⟩
    · have := hXl.out
      omega
    · injection hv with hv
      exact ⟨g, hv⟩
  go_loopw [10] (fun i wr => ∃ k : Nat, k ≤ 32 ∧ i = .int .i64 (k : Int) ∧ Hid (Below w.heap.size w wr) ∧ Hid (Own wr w.heap.size (.slice (some ⟨g, 0, none⟩) N c1) (turn X (32 + d) b k))) (fun i _ => 32 - (intOf i).toNat)
  case atStart => exact ⟨0, Nat.zero_le _, rfl, B1, Lib.hid (by rw [turn_zero]; exact O1.out)⟩
  case round =>
    obtain ⟨i, hi, rfl, HB, HO⟩ := hrel
    by_cases hi32 : i < 32
    · have hbi := hbit.out i hi32
      have i0 : (0 : Int) ≤ (i : Int) := by omega
      have i1 : (i : Int) < 32 := by omega
      rcases Nat.mod_two_eq_zero_or_one (b / 2 ^ i) with hbv | hbv
      · rw [hbv] at hbi
        have hno := turn_no X (32 + d) b i hbv
        go_wp2_with fail
        exact ⟨⟨i + 1, by omega, by go_num, HB, Lib.hid (by rw [hno]; exact HO.out)⟩, by simp [intOf]; omega⟩
      · rw [hbv] at hbi
        obtain ⟨q, hq⟩ : ∃ q, q = (32 + d + i) / 8 := ⟨_, rfl⟩
        obtain ⟨r, hr⟩ : ∃ r, r = (32 + d + i) % 8 := ⟨_, rfl⟩
        have fq : (32 + (d : Int) + (i : Int)) / 8 = (q : Int) := by omega
        have fr : (32 + (d : Int) + (i : Int)) % 8 = (r : Int) := by omega
        have hr8 : r < 8 := by omega
        have hqX : q < X.length := by rw [hXl.out]; omega
        have hql : q < (turn X (32 + d) b i).length := by rw [turn_len]; exact hqX
        obtain ⟨v, hv⟩ : ∃ v, (turn X (32 + d) b i)[q]? = some v := ⟨_, List.getElem?_eq_getElem hql⟩
        have hv256 : v < 256 := turn_byte X (32 + d) b i hXb.out v (List.mem_of_getElem? hv)
        have hyes := turn_yes X (32 + d) b i hbv (by rw [← hq]; exact hqX) v (by rw [← hq]; exact hv)
        rw [← hq, ← hr] at hyes
        have hcell : wr.cell? ⟨g, q, none⟩ = some (.int .u8 (v : Int)) := by
          have := (HO.out.src.at_ _ rfl).2 q v hv
          rwa [add_g] at this
        have hfz := World.ownsRow.frozenAt (own_len HO.out) q
        have hst := Lib.hid (fun u => World.ownsRow.stored (own_len HO.out) q u)
        have q0 : (0 : Int) ≤ (q : Int) := by omega
        have q1 : (q : Int) < (N : Int) := by have := hXl.out; omega
        rw [hN] at q1
        have fx := bits_xor8 v r hv256 hr8
        replace hyes := Lib.hid hyes
        replace hq := Lib.hid hq
        replace hr := Lib.hid hr
        replace hqX := Lib.hid hqX
        replace hql := Lib.hid hql
        replace hv := Lib.hid hv
        go_wp2_with fail
        obtain ⟨hs1, hs2⟩ := hst.out (.int .u8 ((v ^^^ 2 ^ r : Nat) : Int))
        rw [cellsB_set] at hs1
        refine ⟨⟨i + 1, by omega, by go_num, Lib.hid (HB.out.grown hs2 HB.out.size (fun k hk => ?_)), Lib.hid ?_⟩, by simp [intOf]; omega⟩
        · injection hk with hk
          rw [← hk]
          exact (HO.out.lt g rfl).1
        · rw [hyes.out]
          exact own_of_len (by rw [List.length_set, turn_len, hXl.out]; omega) hs1
    · obtain rfl : i = 32 := by omega
      have hE := HT.out [98, 101, 104, 105, 110, 100]
      obtain ⟨Z, hZ⟩ : ∃ Z, Z = turn X (32 + d) b 32 ++ [98, 101, 104, 105, 110, 100] := ⟨_, rfl⟩
      have hZl : Z.length = N + 6 := by rw [hZ, List.length_append, turn_len, hXl.out]; show _ + 6 = _; omega
      have hZb : ∀ x ∈ Z, x < 256 := fun x hx => by
        rw [hZ] at hx
        rcases List.mem_append.1 hx with hx | hx
        · exact turn_byte _ _ _ _ hXb.out x hx
        · simp at hx
          omega
      rw [← hZ] at hE
      have C2 : Hid (∀ A' c' w', Src w' w'.heap.size A' c' Z → Below w.heap.size w w' → Calls Tryd.prog 11 #[.slice A' (N + 6) c'] w' fun e w'' => ∃ A2 c2 y k, e = .returned (.tuple #[.slice A2 y c2, .int .i64 k, .int .i64 (((if b = 0 then 0 else 12 : Nat)) : Int)]) ∧ Below w'.heap.size w' w'') := Lib.hid fun A' c' w' h hb' =>
        (open_any A' c' (N + 6) Z w' h hZl (by omega) hZb (htab.out.below hb' (Nat.le_refl _))).mono fun e w'' ⟨A2, c2, h1, _, h3⟩ => ⟨A2, c2, (openP Z).1.length, ((openP Z).2.1 : Int), by rw [h1, hE], h3⟩
      replace hE := Lib.hid hE
      replace hZl := Lib.hid hZl
      replace hZb := Lib.hid hZb
      have hN6 : N + 6 ≤ 2000000 := by omega
      have hz := HB.out.size
      go_wp2_with (at_builtin; refine append_behind rfl (.tmp 74) rfl w.heap.size _ N _ rfl (own_len HO.out) hN6 hz ?_; intro A2 c2 w2 ho2 hb2; rw [← hZ] at ho2; have HO2 := Lib.hid ho2; have HB2 := Lib.hid (HB.out.trans hb2); clear ho2 hb2)
      refine (C2.out A2 c2 w2 HO2.out.src HB2.out).mono ?_
      rintro _ w3 ⟨A3, c3, y, k, rfl, hb3⟩
      have HB3 := Lib.hid (HB2.out.trans (hb3.mono HB2.out.size))
      clear hb3
      by_cases hb0 : b = 0
      · subst hb0
        dsimp only []
        simp only [if_pos]
        go_wp2_with fail
        go_ret
        exact ⟨rfl, HB3.out⟩
      · rw [if_neg hb0]
        dsimp only []
        have hb0' : ((b : Int) == 0) = false := by simpa using hb0
        go_wp2_with fail
        go_ret
        exact ⟨rfl, HB3.out⟩


set_option maxRecDepth 8000 in
set_option maxHeartbeats 1600000 in
theorem turned_cut (A : Option Addr) (cp : Nat) (n0 : Nat) (h0 : 3000 < n0) (h0c : n0 ≤ 140737488355328) (l : List Nat) (at0 : Int) (b : Nat) (w : World) (hs : Src w w.heap.size A cp l) (hn : l.length = 3000) (hby : ∀ x ∈ l, x < 256) (hb : b < 4294967296) (tab : Tab w) :
    Calls Tryd.prog 6 #[.slice A n0 cp, .int .i64 at0, .int .u32 (b : Int)] w fun e w' => e = .returned (.bool true) ∧ Below w.heap.size w w' := by
  have k0 : 3000 < (n0 : Int) := by omega
  have k1 : (3000 : Int) ≤ (cp : Int) := by have := hs.le; omega
  have C1 : Hid (Calls Tryd.prog 9 #[.slice A 3000 cp] w fun e w'' => ∃ A' c' N, e = .returned (.tuple #[.slice A' N c', .int .i64 0]) ∧ (N : Int) = 3008 ∧ Own w'' w.heap.size (.slice A' N c') (sealP l) ∧ Below w.heap.size w w'') := Lib.hid
    ((seal_any A cp 3000 l w hs hn (by omega) hby tab).mono fun e w'' ⟨A', c', h1, h2, h3⟩ => ⟨A', c', _, h1, by omega, h2, h3⟩)
  have hXl : (sealP l).length = l.length + 8 := sealP_len l
  have hXb : ∀ x ∈ sealP l, x < 256 := sealP_byte l hby
  obtain ⟨t, ht⟩ : ∃ t, t = at0.tmod 24001 := ⟨_, rfl⟩
  have ht1 : -(24001) < t ∧ t < 24001 := by
    rw [ht]
    have h1 := Int.tmod_lt_of_pos at0 (show (0 : Int) < 24001 by omega)
    have h2 := Int.tmod_lt_of_pos (-at0) (show (0 : Int) < 24001 by omega)
    rw [Int.neg_tmod] at h2
    exact ⟨by omega, h1⟩
  have f1 : at0.tmod 24001 = t := ht.symm
  obtain ⟨d, hd⟩ : ∃ d : Nat, (t + 24001).tmod 24001 = (d : Int) := ⟨((t + 24001).tmod 24001).toNat, by
    have := Int.tmod_nonneg 24001 (show (0 : Int) ≤ t + 24001 by omega)
    omega⟩
  have hd2 : d < 24001 := by
    have := Int.tmod_lt_of_pos (t + 24001) (show (0 : Int) < 24001 by omega)
    rw [hd] at this
    omega
  have HT : Hid (∀ m, (openP (turn (sealP l) (32 + d) b 32 ++ m)).2.2 = if b = 0 then 0 else 12) := Lib.hid fun m => openP_turned l m (32 + d) b (by omega) hby hb (by omega) (by omega)
  obtain ⟨X, hX⟩ : ∃ X, X = sealP l := ⟨_, rfl⟩
  rw [← hX] at C1 HT hXl hXb
  rw [hn] at hXl
  have hbit : Hid (∀ i, i < 32 → bits .and .u32 ((b : Int) / 2 ^ i) 1 = ((b / 2 ^ i % 2 : Nat) : Int)) := Lib.hid fun i _ => by
    have e : ((b : Int) / 2 ^ i) = ((b / 2 ^ i : Nat) : Int) := by simp
    rw [e]
    exact bits_and32 _ (by have := Nat.div_le_self b (2 ^ i); omega)
  have e11 := hX
  replace hX := Lib.hid hX
  replace e11 := Lib.hid e11
  replace hXb := Lib.hid hXb
  replace hXl := Lib.hid hXl
  replace hs := Lib.hid hs
  replace hby := Lib.hid hby
  replace hn := Lib.hid hn
  replace ht := Lib.hid ht
  obtain ⟨ht1, ht2⟩ := ht1
  have htab := Lib.hid tab
  clear tab
  go_enter Tryd.func6, Tryd.ntmps6
  go_wp2_with fail
  refine C1.out.mono ?_
  rintro _ w1 ⟨A1, c1, N, rfl, hN, ho1, hb1⟩
  have B1 := Lib.hid hb1
  have O1 := Lib.hid ho1
  clear hb1 ho1
  dsimp only []
  go_wp2_with fail
  obtain ⟨g, rfl⟩ : ∃ g, A1 = some ⟨g, 0, none⟩ := by
    rcases O1.out.2 with ⟨_, h0⟩ | ⟨g, cap, cur, hv, _⟩
    · have := hXl.out
      omega
    · injection hv with hv
      exact ⟨g, hv⟩
  go_loopw [10] (fun i wr => ∃ k : Nat, k ≤ 32 ∧ i = .int .i64 (k : Int) ∧ Hid (Below w.heap.size w wr) ∧ Hid (Own wr w.heap.size (.slice (some ⟨g, 0, none⟩) N c1) (turn X (32 + d) b k))) (fun i _ => 32 - (intOf i).toNat)
  case atStart => exact ⟨0, Nat.zero_le _, rfl, B1, Lib.hid (by rw [turn_zero]; exact O1.out)⟩
  case round =>
    obtain ⟨i, hi, rfl, HB, HO⟩ := hrel
    by_cases hi32 : i < 32
    · have hbi := hbit.out i hi32
      have i0 : (0 : Int) ≤ (i : Int) := by omega
      have i1 : (i : Int) < 32 := by omega
      rcases Nat.mod_two_eq_zero_or_one (b / 2 ^ i) with hbv | hbv
      · rw [hbv] at hbi
        have hno := turn_no X (32 + d) b i hbv
        go_wp2_with fail
        exact ⟨⟨i + 1, by omega, by go_num, HB, Lib.hid (by rw [hno]; exact HO.out)⟩, by simp [intOf]; omega⟩
      · rw [hbv] at hbi
        obtain ⟨q, hq⟩ : ∃ q, q = (32 + d + i) / 8 := ⟨_, rfl⟩
        obtain ⟨r, hr⟩ : ∃ r, r = (32 + d + i) % 8 := ⟨_, rfl⟩
        have fq : (32 + (d : Int) + (i : Int)) / 8 = (q : Int) := by omega
        have fr : (32 + (d : Int) + (i : Int)) % 8 = (r : Int) := by omega
        have hr8 : r < 8 := by omega
        have hqX : q < X.length := by rw [hXl.out]; omega
        have hql : q < (turn X (32 + d) b i).length := by rw [turn_len]; exact hqX
        obtain ⟨v, hv⟩ : ∃ v, (turn X (32 + d) b i)[q]? = some v := ⟨_, List.getElem?_eq_getElem hql⟩
        have hv256 : v < 256 := turn_byte X (32 + d) b i hXb.out v (List.mem_of_getElem? hv)
        have hyes := turn_yes X (32 + d) b i hbv (by rw [← hq]; exact hqX) v (by rw [← hq]; exact hv)
        rw [← hq, ← hr] at hyes
        have hcell : wr.cell? ⟨g, q, none⟩ = some (.int .u8 (v : Int)) := by
          have := (HO.out.src.at_ _ rfl).2 q v hv
          rwa [add_g] at this
        have hfz := World.ownsRow.frozenAt (own_len HO.out) q
        have hst := Lib.hid (fun u => World.ownsRow.stored (own_len HO.out) q u)
        have q0 : (0 : Int) ≤ (q : Int) := by omega
        have q1 : (q : Int) < (N : Int) := by have := hXl.out; omega
        rw [hN] at q1
        have fx := bits_xor8 v r hv256 hr8
        replace hyes := Lib.hid hyes
        replace hq := Lib.hid hq
        replace hr := Lib.hid hr
        replace hqX := Lib.hid hqX
        replace hql := Lib.hid hql
        replace hv := Lib.hid hv
        go_wp2_with fail
        obtain ⟨hs1, hs2⟩ := hst.out (.int .u8 ((v ^^^ 2 ^ r : Nat) : Int))
        rw [cellsB_set] at hs1
        refine ⟨⟨i + 1, by omega, by go_num, Lib.hid (HB.out.grown hs2 HB.out.size (fun k hk => ?_)), Lib.hid ?_⟩, by simp [intOf]; omega⟩
        · injection hk with hk
          rw [← hk]
          exact (HO.out.lt g rfl).1
        · rw [hyes.out]
          exact own_of_len (by rw [List.length_set, turn_len, hXl.out]; omega) hs1
    · obtain rfl : i = 32 := by omega
      have hE := HT.out [98, 101, 104, 105, 110, 100]
      obtain ⟨Z, hZ⟩ : ∃ Z, Z = turn X (32 + d) b 32 ++ [98, 101, 104, 105, 110, 100] := ⟨_, rfl⟩
      have hZl : Z.length = N + 6 := by rw [hZ, List.length_append, turn_len, hXl.out]; show _ + 6 = _; omega
      have hZb : ∀ x ∈ Z, x < 256 := fun x hx => by
        rw [hZ] at hx
        rcases List.mem_append.1 hx with hx | hx
        · exact turn_byte _ _ _ _ hXb.out x hx
        · simp at hx
          omega
      rw [← hZ] at hE
      have C2 : Hid (∀ A' c' w', Src w' w'.heap.size A' c' Z → Below w.heap.size w w' → Calls Tryd.prog 11 #[.slice A' (N + 6) c'] w' fun e w'' => ∃ A2 c2 y k, e = .returned (.tuple #[.slice A2 y c2, .int .i64 k, .int .i64 (((if b = 0 then 0 else 12 : Nat)) : Int)]) ∧ Below w'.heap.size w' w'') := Lib.hid fun A' c' w' h hb' =>
        (open_any A' c' (N + 6) Z w' h hZl (by omega) hZb (htab.out.below hb' (Nat.le_refl _))).mono fun e w'' ⟨A2, c2, h1, _, h3⟩ => ⟨A2, c2, (openP Z).1.length, ((openP Z).2.1 : Int), by rw [h1, hE], h3⟩
      replace hE := Lib.hid hE
      replace hZl := Lib.hid hZl
      replace hZb := Lib.hid hZb
      have hN6 : N + 6 ≤ 2000000 := by omega
      have hz := HB.out.size
      go_wp2_with (at_builtin; refine append_behind rfl (.tmp 74) rfl w.heap.size _ N _ rfl (own_len HO.out) hN6 hz ?_; intro A2 c2 w2 ho2 hb2; rw [← hZ] at ho2; have HO2 := Lib.hid ho2; have HB2 := Lib.hid (HB.out.trans hb2); clear ho2 hb2)
      refine (C2.out A2 c2 w2 HO2.out.src HB2.out).mono ?_
      rintro _ w3 ⟨A3, c3, y, k, rfl, hb3⟩
      have HB3 := Lib.hid (HB2.out.trans (hb3.mono HB2.out.size))
      clear hb3
      by_cases hb0 : b = 0
      · subst hb0
        dsimp only []
        simp only [if_pos]
        go_wp2_with fail
        go_ret
        exact ⟨rfl, HB3.out⟩
      · rw [if_neg hb0]
        dsimp only []
        have hb0' : ((b : Int) == 0) = false := by simpa using hb0
        go_wp2_with fail
        go_ret
        exact ⟨rfl, HB3.out⟩


theorem turned_walk (A : Option Addr) (cp : Nat) (l : List Nat) (at0 : Int) (s : Int) (w : World) (hs : Src w w.heap.size A cp l) (hcp : cp ≤ 140737488355328) (hby : ∀ x ∈ l, x < 256) (h0 : 0 ≤ s) (h1 : s < 4294967296) (tab : Tab w) :
    Calls Tryd.prog 6 #[.slice A l.length cp, .int .i64 at0, .int .u32 s] w fun e w' => e = .returned (.bool true) ∧ Below w.heap.size w w' := by
  obtain ⟨b, rfl⟩ : ∃ n : Nat, s = (n : Int) := ⟨s.toNat, by omega⟩
  have := hs.le
  by_cases h : l.length ≤ 3000
  · exact turned_in A cp l.length h l at0 b w hs rfl hby (by omega) tab
  · exact turned_cut A cp l.length (by omega) (by omega) (l.take 3000) at0 b w (hs.take 3000) (by rw [List.length_take]; omega) (fun x hx => hby x (List.mem_of_mem_take hx)) (by omega) tab
end Go.Proofs.YtklpjdcmppohkaaDoor
