/-
  The program's functions that tell which byte of a text is coded, and which is marked.
-/
import Derived.Test.YtbdbgiecfkgimaaDoorEscF10
import Derived.Test.YtbdbgiecfkgimaaDoorPHex10
import Derived.Test.YtbdbgiecfkgimaaDoorFNext
import Derived.Lib.AppendIntMem
namespace Go.Proofs.YtbdbgiecfkgimaaDoor
open Go.RowKit Go.Lib

/-- What tells whether a byte is coded because the text is not characters alone. -/
def HighF (w : World) (v : Value) (s : ByteArray) (r : Bool) : Prop := ∃ bw b2, v = .func (.func 42) #[] #[.pointer (some ⟨bw, 0, none⟩), .pointer (some ⟨b2, 0, none⟩)] ∧ w.heap[bw]? = some (.cells #[.bool (!r)] 4 (0, 0)) ∧ w.heap[b2]? = some (.cells #[.string s] 9 (0, 0))
theorem blk_below {w w' : World} {b : Nat} {o : Obj} (h : w.heap[b]? = some o) (hb : Below w.heap.size w w') : w'.heap[b]? = some o := by
  rw [hb.block b (Array.getElem?_eq_some_iff.1 h).1, h]
theorem HighF.below {w w' : World} {v : Value} {s : ByteArray} {r : Bool} (h : HighF w v s r) (hb : Below w.heap.size w w') : HighF w' v s r := by
  obtain ⟨bw, b2, h1, h2, h3⟩ := h
  exact ⟨bw, b2, h1, blk_below h2 hb, blk_below h3 hb⟩
set_option maxHeartbeats 1600000 in
theorem high_any (s : ByteArray) (r : Bool) (bw b2 k : Nat) (w : World) (hk : k < s.size) (h1 : w.heap[bw]? = some (.cells #[.bool (!r)] 4 (0, 0))) (h2 : w.heap[b2]? = some (.cells #[.string s] 9 (0, 0))) :
    Calls Tryd.prog 42 #[.int .i64 (k : Int), .pointer (some ⟨bw, 0, none⟩), .pointer (some ⟨b2, 0, none⟩)] w fun e w' => e = .returned (.bool (decide (127 < s[k].toNat ∧ r = false))) ∧ w' = w := by
  have c1 := cell_of_one h1
  have c2 := cell_of_one h2
  have i0 : (0 : Int) ≤ (k : Int) := by omega
  have i1 : (k : Int) < (s.size : Int) := by omega
  have b1 := byte_lt s k hk
  obtain ⟨a, ha⟩ : ∃ a, s[k].toNat = a := ⟨_, rfl⟩
  have hai : ((s[k].toNat : Nat) : Int) = (a : Int) := by rw [ha]
  rw [ha] at b1 ⊢
  replace ha := Lib.hid ha
  cases r
  · rw [show (!false) = true from rfl] at c1
    have e : decide (127 < a ∧ false = false) = decide ((128 : Int) ≤ (a : Int)) := by
      refine Bool.eq_iff_iff.2 ?_
      simp only [decide_eq_true_iff, and_true]
      omega
    rw [e]
    clear e h1 h2
    go_enter Tryd.func42, Tryd.ntmps42
    go_wp2_with fail
    go_ret
    exact ⟨rfl, rfl⟩
  · rw [show (!true) = false from rfl] at c1
    have e : decide (127 < a ∧ true = false) = false := by simp
    rw [e]
    clear e h1 h2
    go_enter Tryd.func42, Tryd.ntmps42
    go_wp2_with fail
    go_ret
    exact ⟨rfl, rfl⟩
set_option maxHeartbeats 1600000 in
theorem codesHigh_any (s : ByteArray) (w : World) (hs : s.size ≤ 2000) (hT : Tabs w) :
    Calls Tryd.prog 20 #[.string s] w fun e w' => ∃ v, e = .returned v ∧ HighF w' v s (rightB s) ∧ Below w.heap.size w w' := by
  have hal : Below w.heap.size w (w.alloc (.cells #[.string s] 9)) := (Below.refl _ _).alloc (Nat.le_refl _) _
  have C := Lib.hid (right_any s _ (by omega) (hT.below hal))
  have hal := Lib.hid hal
  go_enter Tryd.func20, Tryd.ntmps20
  go_wp2_with fail
  refine C.out.mono ?_
  rintro _ w2 ⟨rfl, h2⟩
  replace h2 := Lib.hid h2
  dsimp only []
  go_wp2_with fail
  go_ret
  have hlt : w.heap.size < (w.alloc (.cells #[.string s] 9)).heap.size := by simp
  have hlt2 := Nat.lt_of_lt_of_le hlt h2.out.size
  exact ⟨_, rfl, ⟨w2.heap.size, w.heap.size, rfl, heap_alloc_new w2 _, by rw [heap_alloc_old w2 _ hlt2, h2.out.block _ hlt, heap_alloc_new w]⟩, (hal.out.trans (h2.out.mono (by simp))).trans ((Below.refl _ _).alloc (by omega) _)⟩
theorem sgn_bs : ∀ c : Nat, (c ∈ bs ⟨#[42, 40, 41, 0]⟩) ↔ c = 42 ∨ c = 40 ∨ c = 41 ∨ c = 0 := fun c => by
  show c ∈ [42, 40, 41, 0] ↔ _
  simp
theorem nam_bs (c : Nat) : (c ∈ bs ⟨#[34, 43, 44, 59, 60, 62, 61, 92]⟩) ↔ stopE c = true ∨ c = 92 := by
  show c ∈ [34, 43, 44, 59, 60, 62, 61, 92] ↔ _
  unfold stopE
  simp
  omega
set_option maxHeartbeats 1600000 in
theorem codedF_any (s : ByteArray) (r : Bool) (b1 b2 k : Nat) (v : Value) (w : World) (hk : k < s.size) (h1 : w.heap[b1]? = some (.cells #[.string s] 9 (0, 0))) (h2 : w.heap[b2]? = some (.cells #[v] 32 (0, 0))) (hv : HighF w v s r) :
    Calls Tryd.prog 22 #[.int .i64 (k : Int), .pointer (some ⟨b1, 0, none⟩), .pointer (some ⟨b2, 0, none⟩)] w fun e w' => e = .returned (.bool (codF r (bs s) k)) ∧ w' = w := by
  obtain ⟨bw, b3, rfl, h3, h4⟩ := hv
  have c1 := cell_of_one h1
  have c2 := cell_of_one h2
  have CH := high_any s r bw b3 k w hk h3 h4
  have i0 : (0 : Int) ≤ (k : Int) := by omega
  have i1 : (k : Int) < (s.size : Int) := by omega
  have b1' := byte_lt s k hk
  have hcd : codF r (bs s) k = decide (s[k].toNat = 92 ∨ s[k].toNat = 42 ∨ s[k].toNat = 40 ∨ s[k].toNat = 41 ∨ s[k].toNat = 0 ∨ 127 < s[k].toNat ∧ r = false) := by unfold codF; rw [bs_atE s k hk]
  rw [hcd]
  obtain ⟨a, ha⟩ : ∃ a, s[k].toNat = a := ⟨_, rfl⟩
  have hai : ((s[k].toNat : Nat) : Int) = (a : Int) := by rw [ha]
  rw [ha] at b1' CH ⊢
  have CA := pamong_any ⟨#[42, 40, 41, 0]⟩ a b1' w
  have hsg := sgn_bs a
  replace ha := Lib.hid ha
  clear h1 h2 h3 h4 hcd
  by_cases e92 : a = 92
  · have g1 : ((a : Int) == 92) = true := beq_iff_eq.2 (by omega)
    have g2 : (a : Int) = 92 := by omega
    rw [decide_eq_true (.inl e92)]
    clear CA CH hsg
    go_enter Tryd.func22, Tryd.ntmps22
    go_wp2_with fail
    go_ret
    exact ⟨rfl, rfl⟩
  · have g1 : ((a : Int) == 92) = false := beq_eq_false_iff_ne.2 (by omega)
    have g2 : ¬ (a : Int) = 92 := by omega
    by_cases hin : a = 42 ∨ a = 40 ∨ a = 41 ∨ a = 0
    · rw [decide_eq_true (hsg.2 hin)] at CA
      rw [decide_eq_true (show a = 92 ∨ a = 42 ∨ a = 40 ∨ a = 41 ∨ a = 0 ∨ 127 < a ∧ r = false by rcases hin with h | h | h | h <;> simp [h])]
      replace CA := Lib.hid CA
      clear CH hsg hin
      go_enter Tryd.func22, Tryd.ntmps22
      go_wp2_with fail
      refine CA.out.mono ?_
      rintro _ w2 ⟨rfl, h2⟩
      subst w2
      dsimp only []
      go_wp2_with fail
      go_ret
      exact ⟨rfl, rfl⟩
    · rw [decide_eq_false (fun h => hin (hsg.1 h))] at CA
      have hd : decide (a = 92 ∨ a = 42 ∨ a = 40 ∨ a = 41 ∨ a = 0 ∨ 127 < a ∧ r = false) = decide (127 < a ∧ r = false) := by
        refine Bool.eq_iff_iff.2 ?_
        simp only [decide_eq_true_iff]
        exact ⟨fun h => by
          rcases h with h | h | h | h | h | h
          · exact absurd h e92
          · exact absurd (.inl h) hin
          · exact absurd (.inr (.inl h)) hin
          · exact absurd (.inr (.inr (.inl h))) hin
          · exact absurd (.inr (.inr (.inr h))) hin
          · exact h, fun h => .inr (.inr (.inr (.inr (.inr h))))⟩
      rw [hd]
      obtain ⟨d, hdd⟩ : ∃ d, decide (127 < a ∧ r = false) = d := ⟨_, rfl⟩
      rw [hdd] at CH ⊢
      replace CA := Lib.hid CA
      replace CH := Lib.hid CH
      clear hsg hin hd hdd
      go_enter Tryd.func22, Tryd.ntmps22
      go_wp2_with fail
      refine CA.out.mono ?_
      rintro _ w2 ⟨rfl, h2⟩
      subst w2
      dsimp only []
      go_wp2_with fail
      refine CH.out.mono ?_
      rintro _ w2 ⟨rfl, h2⟩
      subst w2
      dsimp only []
      go_wp2_with fail
      go_ret
      exact ⟨rfl, rfl⟩
set_option maxHeartbeats 1600000 in
theorem codedP_any (s : ByteArray) (r : Bool) (b1 b2 k : Nat) (v : Value) (w : World) (hk : k < s.size) (h1 : w.heap[b1]? = some (.cells #[.string s] 9 (0, 0))) (h2 : w.heap[b2]? = some (.cells #[v] 32 (0, 0))) (hv : HighF w v s r) :
    Calls Tryd.prog 28 #[.int .i64 (k : Int), .pointer (some ⟨b1, 0, none⟩), .pointer (some ⟨b2, 0, none⟩)] w fun e w' => e = .returned (.bool (codP r (bs s) k)) ∧ w' = w := by
  obtain ⟨bw, b3, rfl, h3, h4⟩ := hv
  have c1 := cell_of_one h1
  have c2 := cell_of_one h2
  have CH := high_any s r bw b3 k w hk h3 h4
  have i0 : (0 : Int) ≤ (k : Int) := by omega
  have i1 : (k : Int) < (s.size : Int) := by omega
  have b1' := byte_lt s k hk
  have hcd : codP r (bs s) k = decide (s[k].toNat < 32 ∨ s[k].toNat = 127 ∨ 127 < s[k].toNat ∧ r = false) := by unfold codP; rw [bs_atE s k hk]
  rw [hcd]
  obtain ⟨a, ha⟩ : ∃ a, s[k].toNat = a := ⟨_, rfl⟩
  have hai : ((s[k].toNat : Nat) : Int) = (a : Int) := by rw [ha]
  rw [ha] at b1' CH ⊢
  replace ha := Lib.hid ha
  clear h1 h2 h3 h4 hcd
  by_cases e32 : a < 32
  · have g1 : decide ((a : Int) < 32) = true := decide_eq_true (by omega)
    have g2 : (a : Int) < 32 := by omega
    rw [decide_eq_true (.inl e32)]
    clear CH
    go_enter Tryd.func28, Tryd.ntmps28
    go_wp2_with fail
    go_ret
    exact ⟨rfl, rfl⟩
  · have g1 : decide ((a : Int) < 32) = false := decide_eq_false (by omega)
    have g2 : ¬ (a : Int) < 32 := by omega
    by_cases e127 : a = 127
    · have g3 : ((a : Int) == 127) = true := beq_iff_eq.2 (by omega)
      have g4 : (a : Int) = 127 := by omega
      rw [decide_eq_true (.inr (.inl e127))]
      clear CH
      go_enter Tryd.func28, Tryd.ntmps28
      go_wp2_with fail
      go_ret
      exact ⟨rfl, rfl⟩
    · have g3 : ((a : Int) == 127) = false := beq_eq_false_iff_ne.2 (by omega)
      have g4 : ¬ (a : Int) = 127 := by omega
      have hd : decide (a < 32 ∨ a = 127 ∨ 127 < a ∧ r = false) = decide (127 < a ∧ r = false) := by
        refine Bool.eq_iff_iff.2 ?_
        simp only [decide_eq_true_iff]
        exact ⟨fun h => by
          rcases h with h | h | h
          · exact absurd h e32
          · exact absurd h e127
          · exact h, fun h => .inr (.inr h)⟩
      rw [hd]
      obtain ⟨d, hdd⟩ : ∃ d, decide (127 < a ∧ r = false) = d := ⟨_, rfl⟩
      rw [hdd] at CH ⊢
      replace CH := Lib.hid CH
      clear hd hdd
      go_enter Tryd.func28, Tryd.ntmps28
      go_wp2_with fail
      refine CH.out.mono ?_
      rintro _ w2 ⟨rfl, h2⟩
      subst w2
      dsimp only []
      go_wp2_with fail
      go_ret
      exact ⟨rfl, rfl⟩
set_option maxHeartbeats 1600000 in
theorem markedP_any (s : ByteArray) (b1 k : Nat) (w : World) (hk : k < s.size) (hs : s.size ≤ 2000) (h1 : w.heap[b1]? = some (.cells #[.string s] 9 (0, 0))) :
    Calls Tryd.prog 27 #[.int .i64 (k : Int), .pointer (some ⟨b1, 0, none⟩)] w fun e w' => e = .returned (.bool (mrkP (bs s) k)) ∧ w' = w := by
  have c1 := cell_of_one h1
  have i0 : (0 : Int) ≤ (k : Int) := by omega
  have i1 : (k : Int) < (s.size : Int) := by omega
  have b1' := byte_lt s k hk
  have hcd : mrkP (bs s) k = decide (s[k].toNat = 32 ∧ (k = 0 ∨ k + 1 = s.size) ∨ s[k].toNat = 35 ∧ k = 0 ∨ stopE s[k].toNat = true ∨ s[k].toNat = 92) := by unfold mrkP; rw [bs_atE s k hk, bs_len]
  rw [hcd]
  obtain ⟨a, ha⟩ : ∃ a, s[k].toNat = a := ⟨_, rfl⟩
  have hai : ((s[k].toNat : Nat) : Int) = (a : Int) := by rw [ha]
  rw [ha] at b1' ⊢
  have CA := pamong_any ⟨#[34, 43, 44, 59, 60, 62, 61, 92]⟩ a b1' w
  have hsg := nam_bs a
  replace ha := Lib.hid ha
  clear h1 hcd
  have hst : stopE a = true → a ≠ 32 ∧ a ≠ 35 := fun h => by
    unfold stopE at h
    have := of_decide_eq_true h
    omega
  by_cases e32 : a = 32
  · have g1 : ((a : Int) == 32) = true := beq_iff_eq.2 (by omega)
    have g2 : (a : Int) = 32 := by omega
    by_cases k0 : k = 0
    · subst k0
      rw [decide_eq_true (.inl ⟨e32, .inl rfl⟩)]
      clear CA hsg hst
      go_enter Tryd.func27, Tryd.ntmps27
      go_wp2_with fail
      go_ret
      exact ⟨rfl, rfl⟩
    · have g3 : ((k : Int) == 0) = false := beq_eq_false_iff_ne.2 (by omega)
      have g4 : ¬ (k : Int) = 0 := by omega
      have hd : decide (a = 32 ∧ (k = 0 ∨ k + 1 = s.size) ∨ a = 35 ∧ k = 0 ∨ stopE a = true ∨ a = 92) = decide ((k : Int) = (s.size : Int) - 1) := by
        refine Bool.eq_iff_iff.2 ?_
        simp only [decide_eq_true_iff]
        exact ⟨fun h => by
          rcases h with h | h | h | h
          · omega
          · omega
          · exact absurd e32 (hst h).1
          · omega, fun h => .inl ⟨e32, .inr (by omega)⟩⟩
      rw [hd]
      clear CA hsg hst hd
      by_cases kn : (k : Int) = (s.size : Int) - 1
      · have g5 : (s.size : Int) - 1 = (k : Int) := kn.symm
        rw [decide_eq_true kn]
        clear kn
        go_enter Tryd.func27, Tryd.ntmps27
        go_wp2_with fail
        go_ret
        exact ⟨rfl, rfl⟩
      · have g5 : ((k : Int) == (s.size : Int) - 1) = false := beq_eq_false_iff_ne.2 kn
        rw [decide_eq_false kn]
        go_enter Tryd.func27, Tryd.ntmps27
        go_wp2_with fail
        go_ret
        exact ⟨rfl, rfl⟩
  · have g1 : ((a : Int) == 32) = false := beq_eq_false_iff_ne.2 (by omega)
    have g2 : ¬ (a : Int) = 32 := by omega
    by_cases e35 : a = 35
    · have g3 : ((a : Int) == 35) = true := beq_iff_eq.2 (by omega)
      have g4 : (a : Int) = 35 := by omega
      have hd : decide (a = 32 ∧ (k = 0 ∨ k + 1 = s.size) ∨ a = 35 ∧ k = 0 ∨ stopE a = true ∨ a = 92) = ((k : Int) == 0) := by
        refine Bool.eq_iff_iff.2 ?_
        simp only [decide_eq_true_iff, beq_iff_eq]
        exact ⟨fun h => by
          rcases h with h | h | h | h
          · omega
          · omega
          · exact absurd e35 (hst h).2
          · omega, fun h => .inr (.inl ⟨e35, by omega⟩)⟩
      rw [hd]
      clear CA hsg hst hd
      go_enter Tryd.func27, Tryd.ntmps27
      go_wp2_with fail
      go_ret
      exact ⟨rfl, rfl⟩
    · have g3 : ((a : Int) == 35) = false := beq_eq_false_iff_ne.2 (by omega)
      have g4 : ¬ (a : Int) = 35 := by omega
      have hd : decide (a = 32 ∧ (k = 0 ∨ k + 1 = s.size) ∨ a = 35 ∧ k = 0 ∨ stopE a = true ∨ a = 92) = decide (a ∈ bs ⟨#[34, 43, 44, 59, 60, 62, 61, 92]⟩) := by
        refine Bool.eq_iff_iff.2 ?_
        simp only [decide_eq_true_iff]
        rw [hsg]
        exact ⟨fun h => by
          rcases h with h | h | h
          · exact absurd h.1 e32
          · exact absurd h.1 e35
          · exact h, fun h => .inr (.inr h)⟩
      rw [hd]
      replace CA := Lib.hid CA
      clear hsg hst hd
      obtain ⟨d, hdd⟩ : ∃ d, decide (a ∈ bs ⟨#[34, 43, 44, 59, 60, 62, 61, 92]⟩) = d := ⟨_, rfl⟩
      rw [hdd] at CA ⊢
      clear hdd
      go_enter Tryd.func27, Tryd.ntmps27
      go_wp2_with fail
      refine CA.out.mono ?_
      rintro _ w2 ⟨rfl, h2⟩
      subst w2
      dsimp only []
      go_wp2_with fail
      go_ret
      exact ⟨rfl, rfl⟩
end Go.Proofs.YtbdbgiecfkgimaaDoor
