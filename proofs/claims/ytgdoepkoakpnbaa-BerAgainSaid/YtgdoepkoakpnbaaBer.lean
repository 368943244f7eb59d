/-
  The document's head and Need: what an element's beginning says.
-/
import Derived.Test.YtgdoepkoakpnbaaRefRead
import Derived.Test.YtgdoepkoakpnbaaEltOpen
namespace Go.Proofs.Ytgdoepkoakpnbaa
open Go.RowKit

theorem rn_ok : ∀ (f i a : Nat) (l : List Nat), (∀ x ∈ l, x < 256) → (rn f i a l).2.2 = 0 → i < (rn f i a l).2.1 ∧ (rn f i a l).2.1 ≤ i + l.length ∧ (rn f i a l).2.1 ≤ i + f ∧ (rn f i a l).1 < (a + 1) * 128 ^ f
  | 0, _, _, _, _, h => by simp [rn] at h
  | f + 1, i, a, [], _, h => by simp [rn] at h
  | f + 1, i, a, c :: r, hb, h => by
    rw [rn_cons] at h ⊢
    split at h
    · simp at h
    · rename_i h1
      rw [if_neg h1]
      split at h
      · rename_i h2
        rw [if_pos h2]
        have : (a + 1) * 128 * 1 ≤ (a + 1) * 128 * 128 ^ f := Nat.mul_le_mul_left _ (Nat.pow_pos (by decide))
        rw [Nat.pow_succ, Nat.mul_comm (128 ^ f), ← Nat.mul_assoc]
        simp only [List.length_cons]
        omega
      · rename_i h2
        rw [if_neg h2]
        obtain ⟨h3, h4, h5, h6⟩ := rn_ok f (i + 1) (a * 128 + c % 128) r (fun x hx => hb x (List.mem_cons_of_mem _ hx)) h
        have : (a * 128 + c % 128 + 1) * 128 ^ f ≤ ((a + 1) * 128) * 128 ^ f := Nat.mul_le_mul_right _ (by omega)
        rw [Nat.pow_succ, Nat.mul_comm (128 ^ f), ← Nat.mul_assoc]
        simp only [List.length_cons]
        omega
theorem rdT_ok (l : List Nat) (hb : ∀ x ∈ l, x < 256) (h : (rdT l).2.2.2.2 = 0) : (rdT l).1 ≤ 3 ∧ (rdT l).2.2.1 ≤ 268435455 ∧ 1 ≤ (rdT l).2.2.2.1 ∧ (rdT l).2.2.2.1 ≤ l.length ∧ (rdT l).2.2.2.1 ≤ 5 := by
  rcases l with _ | ⟨x, r⟩
  · simp [rdT] at h
  · have hx := hb x (List.mem_cons_self ..)
    have H : rdT (x :: r) = if x % 32 = 31 then
      if (rn 4 0 0 r).2.2 = 0 then (x / 64, x / 32 % 2 == 1, (rn 4 0 0 r).1, 1 + (rn 4 0 0 r).2.1, 0) else (0, false, 0, 0, (rn 4 0 0 r).2.2)
      else (x / 64, x / 32 % 2 == 1, x % 32, 1, 0) := rfl
    rw [H] at h ⊢
    split at h
    · rename_i h1
      rw [if_pos h1]
      split at h
      · rename_i h2
        rw [if_pos h2]
        obtain ⟨h3, h4, h5, h6⟩ := rn_ok 4 0 0 r (fun x hx => hb x (List.mem_cons_of_mem _ hx)) h2
        simp only [List.length_cons]
        omega
      · rename_i h2
        exact absurd h h2
    · rename_i h1
      rw [if_neg h1]
      simp only [List.length_cons]
      omega
theorem rdL_ok (l : List Nat) (h : (rdL l).2.2 = 0) : (rdL l).1 ≤ 2147483647 ∧ 1 ≤ (rdL l).2.1 ∧ (rdL l).2.1 ≤ l.length ∧ (rdL l).2.1 ≤ 5 := by
  rcases l with _ | ⟨x, r⟩
  · simp [rdL] at h
  · rw [rdL_cons] at h ⊢
    repeat' (split at h)
    all_goals first | (simp at h; done) | skip
    · rename_i h1
      rw [if_pos h1]
      simp only [List.length_cons]
      omega
    · rename_i h1 h2 h3 h4 h5
      rw [if_neg h1, if_neg h2, if_neg h3, if_neg h4, if_neg h5]
      simp only [List.length_cons]
      omega
/-- What an element's beginning says: how many bytes it has, where its inside begins, the error. -/
def hdT (l : List Nat) : Nat × Nat × Nat :=
  if (rdT l).2.2.2.2 ≠ 0 then (0, 0, (rdT l).2.2.2.2) else if (rdL (l.drop (rdT l).2.2.2.1)).2.2 ≠ 0 then (0, 0, (rdL (l.drop (rdT l).2.2.2.1)).2.2)
  else if 16384 < (rdT l).2.2.2.1 + (rdL (l.drop (rdT l).2.2.2.1)).2.1 + (rdL (l.drop (rdT l).2.2.2.1)).1 then (0, 0, 3)
  else ((rdT l).2.2.2.1 + (rdL (l.drop (rdT l).2.2.2.1)).2.1 + (rdL (l.drop (rdT l).2.2.2.1)).1, (rdT l).2.2.2.1 + (rdL (l.drop (rdT l).2.2.2.1)).2.1, 0)
theorem hdT_ok (l : List Nat) (hb : ∀ x ∈ l, x < 256) (h : (hdT l).2.2 = 0) : (rdT l).2.2.2.2 = 0 ∧ 2 ≤ (hdT l).2.1 ∧ (hdT l).2.1 ≤ (hdT l).1 ∧ (hdT l).1 ≤ 16384 ∧ (hdT l).2.1 ≤ l.length := by
  unfold hdT at h ⊢
  split at h
  · rename_i h1
    exact absurd h h1
  · rename_i h1
    rw [if_neg h1]
    have h1' : (rdT l).2.2.2.2 = 0 := by simpa using h1
    obtain ⟨a1, a2, a3, a4, a5⟩ := rdT_ok l hb h1'
    split at h
    · rename_i h2
      exact absurd h h2
    · rename_i h2
      rw [if_neg h2]
      have h2' : (rdL (l.drop (rdT l).2.2.2.1)).2.2 = 0 := by simpa using h2
      obtain ⟨b1, b2, b3, b4⟩ := rdL_ok _ h2'
      rw [List.length_drop] at b3
      split at h
      · simp at h
      · rename_i h3
        rw [if_neg h3]
        simp only []
        omega
theorem Src.behind {w : World} {K b off c f : Nat} {l : List Nat} (h : Src w K (some ⟨b, off, none⟩) c l) (hf : f ≤ l.length) : Src w K (some ⟨b, off + f, none⟩) (c - f) (l.drop f) := by
  refine ⟨by rw [List.length_drop]; have := h.le; omega, (fun e => by cases e), fun ad e => ?_⟩
  injection e with e
  subst e
  refine ⟨fun h0 => ?_, fun j n hj => ?_⟩
  · rw [List.length_drop] at h0
    exact (h.at_ _ rfl).1 (by omega)
  · rw [List.getElem?_drop] at hj
    have := (h.at_ _ rfl).2 _ _ hj
    rw [add_plain2] at this ⊢
    rw [show off + f + j = off + (f + j) by omega]
    exact this

set_option maxRecDepth 4000 in
set_option maxHeartbeats 400000 in
theorem refHead_any (A : Option Addr) (cp : Nat) (l : List Nat) (w : World) (K : Nat) (hs : Src w K A cp l) (hl : l.length ≤ 1048600) (hcp : cp ≤ 9223372036854775807) (hby : ∀ x ∈ l, x < 256) :
    Calls Try.prog 31 #[.slice A l.length cp] w fun e w' => e = .returned (tup3 (hdT l)) ∧ w = w' := by
  have CT := Lib.hid (ref_any A cp l w K hs hl hby)
  by_cases h1 : (rdT l).2.2.2.2 = 0
  · obtain ⟨a1, a2, a3, a4, a5⟩ := rdT_ok l hby h1
    obtain ⟨b, off, rfl, hbK, hc⟩ := hs.plain (by omega)
    have H : hdT l = if (rdL (l.drop (rdT l).2.2.2.1)).2.2 ≠ 0 then (0, 0, (rdL (l.drop (rdT l).2.2.2.1)).2.2)
      else if 16384 < (rdT l).2.2.2.1 + (rdL (l.drop (rdT l).2.2.2.1)).2.1 + (rdL (l.drop (rdT l).2.2.2.1)).1 then (0, 0, 3)
      else ((rdT l).2.2.2.1 + (rdL (l.drop (rdT l).2.2.2.1)).2.1 + (rdL (l.drop (rdT l).2.2.2.1)).1, (rdT l).2.2.2.1 + (rdL (l.drop (rdT l).2.2.2.1)).2.1, 0) := by
      unfold hdT
      rw [if_neg (by simpa using h1)]
    have hcap := hs.le
    by_cases hcu : (rdT l).2.2.2.1 = cp
    · have hd : l.drop (rdT l).2.2.2.1 = [] := List.drop_eq_nil_of_le (by omega)
      have CL := Lib.hid (refLen_any (some ⟨b, off, none⟩) 0 [] w K ⟨Nat.le_refl _, (fun e => by cases e), fun ad e => ⟨fun h0 => absurd h0 (by simp), fun j n hj => by simp at hj⟩⟩ (by simp) (fun x hx => by cases hx))
      have hll : l.length = cp := by omega
      rw [hd, show rdL [] = (0, 0, 10) from rfl, if_pos (by simp)] at H
      rw [show rdL [] = (0, 0, 10) from rfl] at CL
      rw [H]
      obtain ⟨⟨c, m, n, u, er⟩, hq⟩ : ∃ q, q = rdT l := ⟨_, rfl⟩
      rw [← hq] at CT h1 hcu
      simp only [] at CT h1 hcu
      subst h1 hcu
      rw [hll] at CT ⊢
      clear hq hby hs hc H hd hcap hll hl a1 a2 a3 a4 a5
      go_enter Try.func31, Try.ntmps31
      go_wp2_with fail
      refine CT.out.mono ?_
      rintro en w2 ⟨rfl, rfl⟩
      unfold tup5
      dsimp only []
      go_wp2_with fail
      refine CL.out.mono ?_
      rintro en w2 ⟨rfl, rfl⟩
      unfold tup3
      dsimp only []
      go_wp2_with fail
      go_ret3
      exact ⟨rfl, rfl⟩
    have CL := refLen_any (some ⟨b, off + (rdT l).2.2.2.1, none⟩) (cp - (rdT l).2.2.2.1) (l.drop (rdT l).2.2.2.1) w K (hs.behind a4) (by rw [List.length_drop]; omega) (fun x hx => hby x (List.mem_of_mem_drop hx))
    rw [List.length_drop] at CL
    have hL := rdL_ok (l.drop (rdT l).2.2.2.1)
    obtain ⟨⟨c, m, n, u, er⟩, hq⟩ : ∃ q, q = rdT l := ⟨_, rfl⟩
    rw [← hq] at CT h1 a1 a2 a3 a4 a5 CL H hL hcu
    simp only [] at CT h1 a1 a2 a3 a4 a5 CL H hL hcu
    subst h1
    obtain ⟨⟨v, k, er2⟩, hq2⟩ : ∃ q, q = rdL (l.drop u) := ⟨_, rfl⟩
    rw [← hq2] at CL H hL
    simp only [] at CL H hL
    replace CL := Lib.hid CL
    clear hq hq2 hby hs hc
    by_cases h2 : er2 = 0
    · subst h2
      obtain ⟨b1, b2, b3, b4⟩ := hL rfl
      clear hL
      rw [if_neg (by simp)] at H
      by_cases h3 : 16384 < u + k + v
      · rw [if_pos h3] at H
        rw [H]
        have k3 : decide (16384 < (u : Int) + (k : Int) + (v : Int)) = true := decide_eq_true (by omega)
        clear H
        go_enter Try.func31, Try.ntmps31
        go_wp2_with fail
        refine CT.out.mono ?_
        rintro en w2 ⟨rfl, rfl⟩
        unfold tup5
        dsimp only []
        go_wp2_with fail
        refine CL.out.mono ?_
        rintro en w2 ⟨rfl, rfl⟩
        unfold tup3
        dsimp only []
        go_wp2_with fail
        go_ret3
        exact ⟨rfl, rfl⟩
      · rw [if_neg h3] at H
        rw [H]
        have k3 : decide (16384 < (u : Int) + (k : Int) + (v : Int)) = false := decide_eq_false (by omega)
        clear H
        go_enter Try.func31, Try.ntmps31
        go_wp2_with fail
        refine CT.out.mono ?_
        rintro en w2 ⟨rfl, rfl⟩
        unfold tup5
        dsimp only []
        go_wp2_with fail
        refine CL.out.mono ?_
        rintro en w2 ⟨rfl, rfl⟩
        unfold tup3
        dsimp only []
        go_wp2_with fail
        go_ret3
        exact ⟨rfl, rfl⟩
    · rw [if_pos (by simpa using h2)] at H
      rw [H]
      have k2 : ((er2 : Int) != 0) = true := by simp; omega
      clear H hL
      go_enter Try.func31, Try.ntmps31
      go_wp2_with fail
      refine CT.out.mono ?_
      rintro en w2 ⟨rfl, rfl⟩
      unfold tup5
      dsimp only []
      go_wp2_with fail
      refine CL.out.mono ?_
      rintro en w2 ⟨rfl, rfl⟩
      unfold tup3
      dsimp only []
      go_wp2_with fail
      go_ret3
      exact ⟨rfl, rfl⟩
  · have H : hdT l = (0, 0, (rdT l).2.2.2.2) := by
      unfold hdT
      rw [if_pos (by simpa using h1)]
    rw [H]
    obtain ⟨⟨c, m, n, u, er⟩, hq⟩ : ∃ q, q = rdT l := ⟨_, rfl⟩
    rw [← hq] at CT h1
    rw [← hq]
    simp only [] at CT h1 ⊢
    have k2 : ((er : Int) != 0) = true := by simp; omega
    clear H hq
    go_enter Try.func31, Try.ntmps31
    go_wp2_with fail
    refine CT.out.mono ?_
    rintro en w2 ⟨rfl, rfl⟩
    unfold tup5
    dsimp only []
    go_wp2_with fail
    go_ret3
    exact ⟨rfl, rfl⟩

set_option maxRecDepth 4000 in
theorem refNeed_any (A : Option Addr) (cp : Nat) (l : List Nat) (w : World) (K : Nat) (hs : Src w K A cp l) (hl : l.length ≤ 1048600) (hcp : cp ≤ 9223372036854775807) (hby : ∀ x ∈ l, x < 256) :
    Calls Try.prog 16 #[.slice A l.length cp] w fun e w' => e = .returned (.tuple #[.int .i64 ((hdT l).1 : Int), .int .i64 ((hdT l).2.2 : Int)]) ∧ w = w' := by
  have CT := Lib.hid (refHead_any A cp l w K hs hl hcp hby)
  obtain ⟨⟨a, b, c⟩, hq⟩ : ∃ q, q = hdT l := ⟨_, rfl⟩
  rw [← hq] at CT
  rw [← hq]
  simp only []
  go_enter Try.func16, Try.ntmps16
  go_wp2_with fail
  refine CT.out.mono ?_
  rintro en w2 ⟨rfl, rfl⟩
  unfold tup3
  dsimp only []
  go_wp2_with fail
  go_ret2
  exact ⟨rfl, rfl⟩
end Go.Proofs.Ytgdoepkoakpnbaa
