/-
  The program's reading of an identifier, and its texts.
-/
import Derived.Test.YtpmcdkalmdlahaaDoorOidRead
import Derived.Test.YtpmcdkalmdlahaaDoorShelf
import Derived.Test.YtpmcdkalmdlahaaDoorMore
import Derived.Test.YtpmcdkalmdlahaaDoorRefRead7
import Derived.Test.YtpmcdkalmdlahaaDoorOPb
import Derived.Test.YtpmcdkalmdlahaaDoorRefArcs
import Derived.BigGuardPart
import Derived.Test.YtpmcdkalmdlahaaDoorPBuild
import Derived.Test.YtpmcdkalmdlahaaDoorRefText7
import Derived.Test.YtpmcdkalmdlahaaDoorPNum7
import Derived.Test.YtpmcdkalmdlahaaDoorOHyp
import Derived.Deep.AppendLies
import Derived.Deep.RegionHeldLaw
namespace Go.Proofs.YtpmcdkalmdlahaaDoor
open Go.Lib

/-- One number, of at most k more groups, n so far. -/
def rn7 : Nat → Nat → List Nat → Option (Nat × List Nat)
  | 0, _, _ => none
  | _ + 1, _, [] => none
  | k + 1, n, c :: r => if c < 128 then some (n * 128 + c % 128, r) else rn7 k (n * 128 + c % 128) r
def rnum (l : List Nat) : Option (Nat × List Nat) := if l.head? = some 128 then none else rn7 5 0 l
def rnsF : Nat → List Nat → Option (List Nat)
  | _, [] => some []
  | 0, _ :: _ => none
  | k + 1, c :: r => match rnum (c :: r) with
    | none => none
    | some q => (rnsF k q.2).map (fun M => q.1 :: M)
theorem svHi_one {n : Nat} (h : n < 128) : svHi n = [n + 128] := by rw [svHi, dif_pos h]
theorem svHi_more {n : Nat} (h : ¬ n < 128) : svHi n = svHi (n / 128) ++ [n % 128 + 128] := by rw [svHi, dif_neg h]
theorem rn7_sv : ∀ (k n : Nat) (l r : List Nat) (m : Nat), 0 < n → (∀ x ∈ l, x < 256) → rn7 k n l = some (m, r) → svHi n ++ l = sv m ++ r
  | 0, _, _, _, _, _, _, h => by rw [rn7] at h; cases h
  | _ + 1, _, [], _, _, _, _, h => by rw [rn7] at h; cases h
  | k + 1, n, c :: l, r, m, hn, hb, h => by
    rw [rn7] at h
    have hc := hb c List.mem_cons_self
    split at h
    · rename_i h1
      injection h with h
      injection h with h2 h3
      subst h2 h3
      unfold sv
      rw [if_neg (by omega)]
      have e1 : (n * 128 + c % 128) / 128 = n := by omega
      have e2 : (n * 128 + c % 128) % 128 = c := by omega
      rw [e1, e2]
      simp
    · have h1 := rn7_sv k _ l r m (by omega) (fun x hx => hb x (List.mem_cons_of_mem _ hx)) h
      rw [← h1, svHi_more (n := n * 128 + c % 128) (by omega)]
      have e1 : (n * 128 + c % 128) / 128 = n := by omega
      have e2 : (n * 128 + c % 128) % 128 + 128 = c := by omega
      rw [e1, e2]
      simp
theorem sv_pos (m : Nat) : 0 < (sv m).length := by
  unfold sv
  split <;> simp
theorem rnum_sv {l r : List Nat} {m : Nat} (hb : ∀ x ∈ l, x < 256) (h : rnum l = some (m, r)) : l = sv m ++ r := by
  unfold rnum at h
  split at h
  · cases h
  · rename_i h0
    match l, hb, h, h0 with
    | [], _, h, _ => rw [rn7] at h; cases h
    | c :: l, hb, h, h0 =>
      have hc := hb c List.mem_cons_self
      have h1 : c ≠ 128 := fun e => h0 (by rw [e]; rfl)
      rw [rn7] at h
      split at h
      · injection h with h
        injection h with h2 h3
        subst h2 h3
        unfold sv
        rw [if_pos (by omega)]
        have : 0 * 128 + c % 128 = c := by omega
        rw [this]
        rfl
      · have h2 := rn7_sv 4 _ l r m (by omega) (fun x hx => hb x (List.mem_cons_of_mem _ hx)) h
        rw [← h2, svHi_one (by omega)]
        have : 0 * 128 + c % 128 + 128 = c := by omega
        rw [this]
        rfl
theorem rnum_less {l r : List Nat} {m : Nat} (hb : ∀ x ∈ l, x < 256) (h : rnum l = some (m, r)) : r.length < l.length := by
  have h1 := rnum_sv hb h
  have h2 := sv_pos m
  rw [h1, List.length_append]
  omega
theorem rn7_hi (n : Nat) : ∀ (k : Nat) (r : List Nat), 0 < n → rn7 ((svHi n).length + k) 0 (svHi n ++ r) = rn7 k n r := by
  induction n using Nat.strongRecOn with
  | ind n ih =>
    intro k r h
    by_cases h1 : n < 128
    · rw [svHi_one h1]
      show rn7 (1 + k) 0 ((n + 128) :: r) = _
      rw [Nat.add_comm 1 k, rn7, if_neg (by omega)]
      have : 0 * 128 + (n + 128) % 128 = n := by omega
      rw [this]
    · rw [svHi_more h1, List.append_assoc, List.length_append, List.length_singleton, Nat.add_assoc, ih (n / 128) (by omega) _ _ (by omega)]
      show rn7 (1 + k) (n / 128) ((n % 128 + 128) :: r) = _
      rw [Nat.add_comm 1 k, rn7, if_neg (by omega)]
      have : n / 128 * 128 + (n % 128 + 128) % 128 = n := by omega
      rw [this]
theorem svHi_head (n : Nat) : 0 < n → ∀ r : List Nat, (svHi n ++ r).head? ≠ some 128 := by
  induction n using Nat.strongRecOn with
  | ind n ih =>
    intro h r
    by_cases h1 : n < 128
    · rw [svHi_one h1]
      intro e
      injection e with e
      omega
    · rw [svHi_more h1, List.append_assoc]
      exact ih (n / 128) (by omega) (by omega) _
theorem svHi_len (n : Nat) : ∀ k, n < 128 ^ (k + 1) → (svHi n).length ≤ k + 1 := by
  induction n using Nat.strongRecOn with
  | ind n ih =>
    intro k h
    by_cases h1 : n < 128
    · rw [svHi_one h1]
      simp
    · match k, h with
      | 0, h => simp at h; omega
      | k + 1, h =>
        rw [svHi_more h1, List.length_append, List.length_singleton]
        have := ih (n / 128) (by omega) k (by rw [Nat.pow_succ] at h; omega)
        omega
theorem rnum_put {n : Nat} (h : n < 34359738368) (r : List Nat) : rnum (sv n ++ r) = some (n, r) := by
  unfold rnum sv
  by_cases h1 : n < 128
  · rw [if_pos h1, if_neg (by intro e; injection e with e; omega)]
    show rn7 5 0 (n :: r) = _
    rw [rn7, if_pos h1]
    have : 0 * 128 + n % 128 = n := by omega
    rw [this]
  · rw [if_neg h1, List.append_assoc, if_neg (svHi_head _ (by omega) _)]
    have hl := svHi_len (n / 128) 3 (by omega)
    obtain ⟨k, hk⟩ : ∃ k, 5 = (svHi (n / 128)).length + (k + 1) := ⟨4 - (svHi (n / 128)).length, by omega⟩
    rw [hk, rn7_hi _ _ _ (by omega)]
    show rn7 (k + 1) (n / 128) (n % 128 :: r) = _
    rw [rn7, if_pos (by omega)]
    have : n / 128 * 128 + n % 128 % 128 = n := by omega
    rw [this]
theorem rnsF_cons (k : Nat) {l : List Nat} (h : l ≠ []) : rnsF (k + 1) l = match rnum l with
    | none => none
    | some q => (rnsF k q.2).map (fun M => q.1 :: M) := by
  match l, h with
  | c :: r, _ => rw [rnsF]
theorem rnsF_zero {l : List Nat} (h : l ≠ []) : rnsF 0 l = none := by
  match l, h with
  | c :: r, _ => rw [rnsF]
theorem rnsF_nil (k : Nat) : rnsF k [] = some [] := by rw [rnsF]
theorem rnsF_sv : ∀ (k : Nat) (l M : List Nat), (∀ x ∈ l, x < 256) → rnsF k l = some M → l = M.flatMap sv ∧ M.length ≤ k
  | k, [], M, _, h => by
    rw [rnsF_nil] at h
    injection h with h
    subst h
    exact ⟨rfl, Nat.zero_le _⟩
  | 0, c :: r, M, _, h => by
    rw [rnsF_zero (by simp)] at h
    cases h
  | k + 1, c :: r, M, hb, h => by
    rw [rnsF] at h
    cases hq : rnum (c :: r) with
    | none => rw [hq] at h; cases h
    | some q =>
      rw [hq] at h
      dsimp only [] at h
      cases h2 : rnsF k q.2 with
      | none => rw [h2] at h; cases h
      | some N =>
        rw [h2] at h
        injection h with h
        subst h
        have h3 := rnum_sv (m := q.1) (r := q.2) hb hq
        have h4 := rnsF_sv k q.2 N (fun x hx => hb x (by rw [h3]; simp [hx])) h2
        constructor
        · rw [h3, List.flatMap_cons]
          exact congrArg (fun z => sv q.1 ++ z) h4.1
        · rw [List.length_cons]
          omega
theorem sv_ne (m : Nat) (r : List Nat) : sv m ++ r ≠ [] := by
  intro e
  have := sv_pos m
  have h := congrArg List.length e
  rw [List.length_append, List.length_nil] at h
  omega
theorem rnsF_put : ∀ (k : Nat) (M : List Nat), M.length ≤ k → (∀ n ∈ M, n < 34359738368) → rnsF k (M.flatMap sv) = some M
  | k, [], _, _ => rnsF_nil k
  | 0, _ :: _, h, _ => by simp at h
  | k + 1, n :: M, h, hn => by
    rw [List.flatMap_cons, rnsF_cons k (sv_ne n _), rnum_put (hn n List.mem_cons_self)]
    dsimp only []
    rw [rnsF_put k M (by simpa using h) (fun m hm => hn m (List.mem_cons_of_mem _ hm))]
    rfl
theorem foldA_ok {L : List Nat} (h : Valid7 L) : foldA L ≠ [] ∧ (foldA L).length ≤ 16 ∧ ∀ n ∈ foldA L, n < 34359738368 := by
  obtain ⟨h1, h2⟩ := h
  have hk := okA_len h1
  match L, h1, h2, hk with
  | a :: b :: r, h1, h2, hk =>
    simp only [okA, Bool.and_eq_true, Bool.or_eq_true, decide_eq_true_eq] at h1
    have hb := h2 b (by simp)
    refine ⟨by simp [foldA], ?_, ?_⟩
    · simp only [foldA, List.length_cons] at *
      omega
    · intro n hn
      simp only [foldA, List.mem_cons] at hn
      rcases hn with rfl | hn
      · omega
      · have := h2 n (by simp [hn])
        omega
theorem fold_unfold {M : List Nat} (h : M ≠ []) : foldA (unfoldA M) = M := by
  match M, h with
  | c :: r, _ =>
    simp only [unfoldA, foldA]
    congr 1
    omega
theorem unfoldA_ne {M : List Nat} (h : M ≠ []) : unfoldA M ≠ [] := by
  match M, h with
  | c :: r, _ => simp [unfoldA]
theorem rd_of {l L : List Nat} (h : rdX l = some L) : rnsF 16 l = some (foldA L) := by
  obtain ⟨h1, h2⟩ := rdX_some h
  obtain ⟨_, h4, h5⟩ := foldA_ok h1
  rw [← h2]
  exact rnsF_put 16 _ h4 h5
theorem rd_none {l : List Nat} (h : rnsF 16 l = none ∨ rnsF 16 l = some []) : rdX l = none := by
  cases hr : rdX l with
  | none => rfl
  | some L =>
    have h1 := rd_of hr
    have h2 := (foldA_ok (rdX_some hr).1).1
    rcases h with h | h
    · rw [h] at h1; cases h1
    · rw [h] at h1
      injection h1 with h1
      exact absurd h1.symm h2
theorem decDigits_inj {a b : Nat} (h : decDigits a = decDigits b) : a = b := by
  rw [← natV_dec a, h, natV_dec b]
theorem map_dec_inj : ∀ {L M : List Nat}, L.map decDigits = M.map decDigits → L = M
  | [], [], _ => rfl
  | [], _ :: _, h => by simp at h
  | _ :: _, [], h => by simp at h
  | a :: L, b :: M, h => by
    simp only [List.map_cons, List.cons.injEq] at h
    rw [decDigits_inj h.1, map_dec_inj h.2]
theorem sp_txA {L : List Nat} (h : L ≠ []) : sp 46 (txA L) = L.map decDigits := by
  unfold txA
  exact sp_jn 46 _ (by simpa using h) (fun p hp => by
    obtain ⟨n, _, rfl⟩ := List.mem_map.1 hp
    exact dot_free _ (digs_dec n))
theorem txA_inj {L M : List Nat} (hL : L ≠ []) (hM : M ≠ []) (h : txA L = txA M) : L = M := by
  have h1 := sp_txA hL
  rw [h, sp_txA hM] at h1
  exact map_dec_inj h1.symm
/-- What is read, when the text that the numbers make is none, and when it is one. -/
theorem rd_bad {l M : List Nat} (h : rnsF 16 l = some M) (hs : arcsO (txA (unfoldA M)) = none) : rdX l = none := by
  cases hr : rdX l with
  | none => rfl
  | some L =>
    have h1 := rd_of hr
    rw [h] at h1
    injection h1 with h1
    have h2 := (rdX_some hr).1
    rw [h1, unfold_fold h2.1, arcs_valid h2] at hs
    cases hs
theorem rd_good {l M L : List Nat} (hb : ∀ x ∈ l, x < 256) (h : rnsF 16 l = some M) (hM : M ≠ []) (hs : arcsO (txA (unfoldA M)) = some L) : rdX l = some (unfoldA M) := by
  have h1 := arcsO_some hs
  have hv := valid_arcs hs
  have h2 : L = unfoldA M := txA_inj (by intro e; rw [e] at hv; exact absurd hv.1 (by decide)) (unfoldA_ne hM) h1.1
  subst h2
  have h3 := rdX_put hv
  unfold putA at h3
  rw [fold_unfold hM, ← (rnsF_sv 16 l M hb h).1] at h3
  exact h3
end Go.Proofs.YtpmcdkalmdlahaaDoor
namespace Go.Proofs.YtpmcdkalmdlahaaDoor
open Go.RowKit Go.Lib

theorem Src.bytesIn {w : World} {K : Nat} {A : Option Addr} {c : Nat} {l : List Nat} (h : Src w K A c l) : Lib.BytesIn w A l.length (l.map fun (n : Nat) => (n : Int)) := by
  intro hn
  have hle := h.le
  obtain ⟨ad, rfl⟩ : ∃ ad, A = some ad := by
    cases A with
    | none => have := h.nil rfl; omega
    | some a => exact ⟨a, rfl⟩
  refine Lib.BytesIn.of_cells (a := ad) (fun i hi => ?_) hn
  have h1 := (h.at_ ad rfl).2 i l[i] (List.getElem?_eq_getElem hi)
  rw [h1]
  simp [hi]
theorem pre128 (l : List Nat) (hb : ∀ x ∈ l, x < 256) : Lib.hasPrefix (Lib.bytesOf (l.map fun (n : Nat) => (n : Int))) (Lib.bytesOf [128]) = decide (l.head? = some 128) := by
  cases l with
  | nil => rfl
  | cons c l =>
    have hc := hb c List.mem_cons_self
    have h1 : (UInt8.ofNat c = 128) ↔ c = 128 := by
      have h : ∀ n, n < 256 → ((UInt8.ofNat n = 128) ↔ n = 128) := by decide +kernel
      exact h c hc
    rw [Bool.eq_iff_iff]
    show ([128].isPrefixOf (UInt8.ofNat c :: _) = true) ↔ _
    simp only [List.isPrefixOf, Bool.and_true, beq_iff_eq, List.head?_cons, Option.some.injEq, decide_eq_true_eq]
    exact ⟨fun e => h1.1 e.symm, fun e => (h1.2 e).symm⟩
theorem cutB_to (B : Option Addr) (m cc k : Nat) (hk : k ≤ m) (hm : m ≤ cc) (W : World) :
    (Instr.sliceAt 22 (.slice B m cc) none (some (.int .i64 (k : Int))) none).run Tryd.prog W = .ok (.slice B k cc) W := by
  have h1 : (0 : Int) ≤ (k : Int) := by omega
  have h2 : (k : Int) ≤ (cc : Int) := by omega
  go_simp
theorem cutB_from (B : Option Addr) (m cc k : Nat) (hk : k ≤ m) (hm : m ≤ cc) (W : World) :
    (Instr.sliceAt 22 (.slice B m cc) (some (.int .i64 (k : Int))) none none).run Tryd.prog W = .ok (.slice (if cc = k then B else B.map (·.add k)) (m - k) (cc - k)) W := by
  have h1 : (0 : Int) ≤ (k : Int) := by omega
  have h2 : (k : Int) ≤ (m : Int) := by omega
  have h3 : (m : Int) ≤ (cc : Int) := by omega
  go_simp
/-- The number, and how many bytes it has. -/
def rnT (l : List Nat) : Nat × Nat := match rnum l with
  | none => (0, 0)
  | some q => (q.1, l.length - q.2.length)
theorem rnT_none {l : List Nat} (h : rnum l = none) : rnT l = (0, 0) := by unfold rnT; rw [h]
theorem rnT_some {l r : List Nat} {n : Nat} (h : rnum l = some (n, r)) : rnT l = (n, l.length - r.length) := by unfold rnT; rw [h]
theorem rnum_of {l : List Nat} (h : ¬ l.head? = some 128) : rnum l = rn7 5 0 l := if_neg h
set_option maxRecDepth 8000 in
set_option maxHeartbeats 2000000 in
theorem rnum_any (A : Option Addr) (cp N : Nat) (l : List Nat) (w : World) (hN : l.length = N) (hN3 : N ≤ 1000) (hs : Src w w.heap.size A cp l) (hb : ∀ x ∈ l, x < 256) :
    Calls Tryd.prog 45 #[.slice A N cp] w fun e w' => e = .returned (.tuple #[.int .i64 ((rnT l).1 : Int), .int .i64 ((rnT l).2 : Int)]) ∧ Below w.heap.size w w' := by
  have hle := hs.le
  rw [hN] at hle
  have hbi := hs.bytesIn
  rw [hN] at hbi
  have hp := pre128 l hb
  obtain ⟨xs, hxs⟩ : ∃ xs, xs = l.map fun (n : Nat) => (n : Int) := ⟨_, rfl⟩
  rw [← hxs] at hbi hp
  have hxl : xs.length = N := by rw [hxs, List.length_map, hN]
  obtain ⟨wp, hwp⟩ : ∃ wp, wp = w.alloc (.cells #[.int .u8 128] 5) := ⟨_, rfl⟩
  have hbp : Below w.heap.size w wp := by
    rw [hwp]
    exact (Below.refl _ _).alloc (Nat.le_refl _) _
  have CP : Hid (Calls Tryd.prog 56 #[.slice A N cp, .slice (some ⟨w.heap.size, 0, none⟩) 1 1] wp fun e w' => e = .returned (.bool (decide (l.head? = some 128))) ∧ w' = wp) := Lib.hid (by
    rw [← hp]
    refine Tryd.bytes_HasPrefix_all A (some ⟨w.heap.size, 0, none⟩) N cp 1 1 xs [128] wp hxl rfl hle ?_ ?_
    · have := ((hs.below hbp).bytesIn)
      rw [hN, ← hxs] at this
      exact this
    · refine Lib.BytesIn.of_cells (a := ⟨w.heap.size, 0, none⟩) (fun i hi => ?_)
      have hi0 : i = 0 := by omega
      subst hi0
      rw [hwp]
      exact news_one w (.int .u8 128) _ 0 _ rfl)
  rw [hwp] at CP hbp
  replace hs := Lib.hid hs
  replace hb := Lib.hid hb
  replace hxs := Lib.hid hxs
  replace hbp := Lib.hid hbp
  clear hp hwp
  by_cases h128 : l.head? = some 128
  · have hfin : rnT l = (0, 0) := rnT_none (by unfold rnum; rw [if_pos h128])
    rw [decide_eq_true h128] at CP
    replace hfin := Lib.hid hfin
    replace h128 := Lib.hid h128
    go_enter Tryd.func45, Tryd.ntmps45
    go_wp2_with fail
    refine CP.out.mono ?_
    rintro _ w2 ⟨rfl, rfl⟩
    dsimp only []
    go_wp2_with fail
    go_returns
    exact ⟨by rw [hfin.out]; rfl, hbp.out⟩
  · have hrn := rnum_of h128
    rw [decide_eq_false h128] at CP
    obtain ⟨M, hM⟩ : ∃ M, M = min N 5 := ⟨_, rfl⟩
    have hM5 : M ≤ 5 := by omega
    have hMN : M ≤ N := by omega
    have hmin : min (N : Int) 5 = (M : Int) := by omega
    have hcut := cutB_to A N cp M hMN hle
    have hMc : M ≤ cp := by omega
    replace hM := Lib.hid hM
    replace hrn := Lib.hid hrn
    replace h128 := Lib.hid h128
    replace hN := Lib.hid hN
    go_enter Tryd.func45, Tryd.ntmps45
    go_wp2_with fail
    refine CP.out.mono ?_
    rintro _ w2 ⟨rfl, rfl⟩
    dsimp only []
    go_wp2_with fail
    obtain ⟨R, hR⟩ : ∃ R, R = rn7 5 0 l := ⟨_, rfl⟩
    rw [← hR] at hrn
    replace hR := Lib.hid hR
    go_loopw [2, 15] (fun nv iv wr => ∃ (i n : Nat), i ≤ M ∧ n ≤ 34359738367 ∧ nv = .int .i64 (n : Int) ∧ iv = .int .i64 (i : Int) ∧ Hid (n < 128 ^ i) ∧ Hid (rn7 (5 - i) n (l.drop i) = R) ∧ wr = w.alloc (.cells #[.int .u8 128] 5)) (fun _ iv _ => M - (RowKit.intOf iv).toNat)
    case atStart => exact ⟨0, 0, Nat.zero_le _, by omega, rfl, rfl, Lib.hid (by decide), Lib.hid hR.out.symm, rfl⟩
    case round =>
      obtain ⟨i, n, hi, hn, rfl, rfl, HN, H, rfl⟩ := hrel
      by_cases hlt : i < M
      · have hl : i < l.length := by rw [hN.out]; omega
        have hd := drop_get l i hl
        obtain ⟨x, hx⟩ : ∃ x, l[i] = x := ⟨_, rfl⟩
        have hxb : x < 256 := by rw [← hx]; exact hb.out _ (List.getElem_mem hl)
        have hlx : l[i]? = some x := by rw [List.getElem?_eq_getElem hl, hx]
        rw [hx] at hd
        have hst := H.out
        have h5 : 5 - i = (5 - (i + 1)) + 1 := by omega
        rw [hd, h5, rn7] at hst
        have hpw : 128 ^ (i + 1) ≤ 34359738368 := by
          have h1 : (128 : Nat) ^ (i + 1) ≤ 128 ^ 5 := Nat.pow_le_pow_right (by omega) (by omega)
          exact h1
        have hnb : n < 268435456 := by
          have h1 : (128 : Nat) ^ i ≤ 128 ^ 4 := Nat.pow_le_pow_right (by omega) (by omega)
          have h2 : (128 : Nat) ^ 4 = 268435456 := by decide
          have := HN.out
          omega
        obtain ⟨d, hd2⟩ : ∃ d, d = x % 128 := ⟨_, rfl⟩
        have hd3 : d < 128 := by omega
        have ha := andNot128 x hxb
        rw [← hd2] at ha hst
        have hor := or_i64 (n * 128) d 7 (by omega) (by omega) (by omega)
        obtain ⟨m, hm⟩ : ∃ m, m = n * 128 + d := ⟨_, rfl⟩
        rw [← hm] at hor hst
        have hmb : m ≤ 34359738367 := by omega
        have hmp : m < 128 ^ (i + 1) := by
          have := HN.out
          rw [Nat.pow_succ]
          omega
        have hor2 : bits .or .i64 ((n : Int) * 128) (d : Int) = (m : Int) := by
          rw [← hor]
          rfl
        obtain ⟨ad, had, hcell⟩ : ∃ ad, A = some ad ∧ w.cell? (ad.add i) = some (.int .u8 (x : Int)) := by
          have h1 := hs.out
          cases A with
          | none => have := h1.nil rfl; omega
          | some a => exact ⟨a, rfl, (h1.at_ a rfl).2 i x hlx⟩
        subst had
        have hbl : ad.block < w.heap.size := (hs.out.at_ ad rfl).1 (by omega)
        have hcell2 : (w.alloc (.cells #[.int .u8 128] 5)).cell? (ad.add i) = some (.int .u8 (x : Int)) := by
          rw [hbp.out.cell (p := ad.add i) (by rw [add_block]; exact hbl), hcell]
        have i1 : (i : Int) < (M : Int) := by omega
        have i0 : (0 : Int) ≤ (i : Int) := by omega
        clear hcell hbl h5 hpw
        replace hd := Lib.hid hd
        replace hx := Lib.hid hx
        replace hlx := Lib.hid hlx
        replace hm := Lib.hid hm
        replace hd2 := Lib.hid hd2
        replace hmp := Lib.hid hmp
        replace hor := Lib.hid hor
        replace hl := Lib.hid hl
        by_cases h127 : x < 128
        · rw [if_pos h127] at hst
          have hq : rnum l = some (m, l.drop (i + 1)) := by rw [hrn.out, ← hst]
          have hfin : rnT l = (m, i + 1) := by
            rw [rnT_some hq, List.length_drop]
            have := hl.out
            congr 1
            omega
          have k1 : (x : Int) < 128 := by omega
          replace hst := Lib.hid hst
          replace hq := Lib.hid hq
          replace hfin := Lib.hid hfin
          go_wp2_with fail
          go_returns
          exact ⟨by rw [hfin.out]; rfl, hbp.out⟩
        · rw [if_neg h127] at hst
          have k1 : ¬ ((x : Int) < 128) := by omega
          replace hst := Lib.hid hst
          go_wp2_with fail
          go_roundw
          case rel => exact ⟨i + 1, m, by omega, hmb, by go_num, by go_num, hmp, hst, trivial⟩
          case measure => simp [RowKit.intOf]; omega
      · have hiM : i = M := by omega
        subst hiM
        have hst := H.out
        have hnone : rnum l = none := by
          rw [hrn.out, ← hst]
          have h1 := hM.out
          have h2 := hN.out
          by_cases h5 : i = 5
          · rw [h5]
            exact rn7.eq_1 _ _
          · have h6 : 5 - i = (4 - i) + 1 := by omega
            rw [List.drop_of_length_le (by omega), h6, rn7]
        have hfin : rnT l = (0, 0) := rnT_none hnone
        replace hfin := Lib.hid hfin
        have i1 : ¬ ((i : Int) < (i : Int)) := by omega
        clear hst hnone
        go_wp2_with fail
        go_returns
        exact ⟨by rw [hfin.out]; rfl, hbp.out⟩
end Go.Proofs.YtpmcdkalmdlahaaDoor
namespace Go.Proofs.YtpmcdkalmdlahaaDoor
open Go.RowKit Go.Lib

theorem Src.drop {w : World} {K : Nat} {A : Option Addr} {c : Nat} {L : List Nat} (h : Src w K A c L) (k : Nat) : Src w K (if c = k then A else A.map (·.add k)) (c - k) (L.drop k) := by
  have hle := h.le
  by_cases e : c = k
  · rw [if_pos e]
    have hd : L.drop k = [] := List.drop_of_length_le (by omega)
    rw [hd]
    refine ⟨by simp, fun hA => by have := h.nil hA; omega, fun ad hA => ⟨fun h0 => by simp at h0, fun j x hj => by simp at hj⟩⟩
  · rw [if_neg e]
    refine ⟨by rw [List.length_drop]; omega, fun hA => ?_, fun ad hA => ?_⟩
    · cases A with
      | none => have := h.nil rfl; omega
      | some a => cases hA
    · cases A with
      | none => cases hA
      | some a =>
        injection hA with hA
        subst hA
        refine ⟨fun h0 => ?_, fun j x hj => ?_⟩
        · rw [add_block]
          rw [List.length_drop] at h0
          exact (h.at_ a rfl).1 (by omega)
        · rw [List.getElem?_drop] at hj
          have := (h.at_ a rfl).2 (k + j) x hj
          rwa [addr_add7]
def szS : Value → Nat
  | .slice _ n _ => n
  | _ => 0
theorem OwnN.shape {w : World} {base : Nat} {v : Value} {l : List Nat} (h : OwnN w base v l) : ∃ A c, v = .slice A l.length c := by
  rcases h.2 with ⟨h1, h2⟩ | ⟨g, cap, cur, h1, _⟩
  · exact ⟨none, 0, by rw [h1, h2]⟩
  · exact ⟨_, _, h1⟩
def RnsQ (l : List Nat) (base : Nat) (e : Ending) (w' : World) : Prop :=
  match rnsF 16 l with
  | none => e = .returned (.tuple #[.slice none 0 0, .bool false])
  | some M => ∃ A c, e = .returned (.tuple #[.slice A M.length c, .bool (decide (0 < M.length))]) ∧ OwnN w' base (.slice A M.length c) M
theorem rns_stop (k : Nat) {r : List Nat} (hr : r ≠ []) (h : rnum r = none ∨ k = 0) : rnsF k r = none := by
  cases k with
  | zero => exact rnsF_zero hr
  | succ k =>
    rcases h with h | h
    · rw [rnsF_cons k hr, h]
    · cases h
theorem rns_next (k : Nat) {r q : List Nat} {n : Nat} (hr : r ≠ []) (h : rnum r = some (n, q)) : rnsF (k + 1) r = (rnsF k q).map (fun M => n :: M) := by
  rw [rnsF_cons k hr, h]
theorem RnsQ.no {l : List Nat} {base : Nat} {w' : World} (h : rnsF 16 l = none) : RnsQ l base (.returned (.tuple #[.slice none 0 0, .bool false])) w' := by
  unfold RnsQ
  rw [h]
theorem RnsQ.yes {l M : List Nat} {base m c : Nat} {A : Option Addr} {b : Bool} {w' : World} (h : rnsF 16 l = some M) (hm : M.length = m) (hb : b = decide (0 < m)) (ho : OwnN w' base (.slice A m c) M) : RnsQ l base (.returned (.tuple #[.slice A m c, .bool b])) w' := by
  unfold RnsQ
  rw [h]
  subst hm hb
  exact ⟨A, c, rfl, ho⟩
set_option maxRecDepth 8000 in
set_option maxHeartbeats 2000000 in
theorem rnums_any (A : Option Addr) (cp N : Nat) (l : List Nat) (w : World) (hN : l.length = N) (hN3 : N ≤ 1000) (hs : Src w w.heap.size A cp l) (hb : ∀ x ∈ l, x < 256) :
    Calls Tryd.prog 27 #[.slice A N cp] w fun e w' => RnsQ l w.heap.size e w' ∧ Below w.heap.size w w' := by
  replace hs := Lib.hid hs
  replace hb := Lib.hid hb
  replace hN := Lib.hid hN
  go_enter Tryd.func27, Tryd.ntmps27
  go_wp2_with fail
  go_loopw [0, 4] (fun bv lv wr => ∃ (N' c' m cc : Nat) (A' B : Option Addr) (r M : List Nat), bv = .slice A' N' c' ∧ lv = .slice B m cc ∧ N' ≤ 1000 ∧ m ≤ 16 ∧ Hid (r.length = N') ∧ Hid (M.length = m) ∧ Hid (∀ x ∈ r, x < 256) ∧ Hid (Src wr w.heap.size A' c' r) ∧ Hid (OwnN wr w.heap.size (.slice B m cc) M) ∧ Hid (rnsF 16 l = (rnsF (16 - m) r).map (fun T => M ++ T)) ∧ Hid (Below w.heap.size w wr)) (fun bv _ _ => szS bv)
  case atStart => exact ⟨N, cp, 0, 0, A, none, l, [], rfl, rfl, hN3, by omega, hN, Lib.hid rfl, hb, hs, Lib.hid (OwnN.nil _ _), Lib.hid (by simp), Lib.hid (Below.refl _ _)⟩
  case round =>
    obtain ⟨N', c', m, cc, A', B, r, M, rfl, rfl, hN', hm, HR, HM, HBy, HS, HO, HF, HB⟩ := hrel
    have hsz := HB.out.size
    by_cases h0 : 0 < N'
    · have i1 : (0 : Int) < (N' : Int) := by omega
      have hr : r ≠ [] := by
        intro e
        have := HR.out
        rw [e] at this
        simp at this
        omega
      have CN := rnum_any A' c' N' r wr HR.out hN' (HS.out.more hsz) HBy.out
      cases hq : rnum r with
      | none =>
        have hfin : rnsF 16 l = none := by rw [HF.out, rns_stop _ hr (.inl hq)]; rfl
        rw [rnT_none hq] at CN
        replace CN := Lib.hid CN
        replace hfin := Lib.hid hfin
        replace hq := Lib.hid hq
        replace hr := Lib.hid hr
        go_wp2_with fail
        refine CN.out.mono ?_
        rintro _ w2 ⟨rfl, h2⟩
        replace h2 := Lib.hid (HB.out.trans (h2.mono hsz))
        dsimp only []
        go_wp2_with fail
        go_returns
        exact ⟨RnsQ.no hfin.out, h2.out⟩
      | some q =>
        obtain ⟨n, q⟩ := q
        have hsv := rnum_sv HBy.out hq
        have hle := rnum_less HBy.out hq
        rw [rnT_some hq] at CN
        obtain ⟨u, hu⟩ : ∃ u, u = r.length - q.length := ⟨_, rfl⟩
        dsimp only [] at CN
        rw [← hu] at CN
        have hu0 : 0 < u := by omega
        have huN : u ≤ N' := by have := HR.out; omega
        have hdr : r.drop u = q := by
          have h1 : u = (sv n).length := by
            rw [hu, hsv, List.length_append]
            omega
          rw [h1, hsv]
          simp
        have k0 : ¬ ((u : Int) = 0) := by omega
        have k1 : decide ((u : Int) = 0) = false := decide_eq_false k0
        have k2 : ((u : Int) == 0) = false := by simpa using k0
        replace CN := Lib.hid CN
        replace hsv := Lib.hid hsv
        replace hq := Lib.hid hq
        replace hr := Lib.hid hr
        replace hu := Lib.hid hu
        by_cases h16 : m = 16
        · subst h16
          have hfin : rnsF 16 l = none := by rw [HF.out, rns_stop _ hr.out (.inr rfl)]; rfl
          replace hfin := Lib.hid hfin
          clear hdr hle
          go_wp2_with fail
          refine CN.out.mono ?_
          rintro _ w2 ⟨rfl, h2⟩
          replace h2 := Lib.hid (HB.out.trans (h2.mono hsz))
          dsimp only []
          go_wp2_with fail
          go_returns
          exact ⟨RnsQ.no hfin.out, h2.out⟩
        · have j0 : ¬ ((m : Int) = 16) := by omega
          have j1 : decide ((m : Int) = 16) = false := decide_eq_false j0
          have j2 : ((m : Int) == 16) = false := by simpa using j0
          have hF2 : rnsF 16 l = (rnsF (16 - (m + 1)) q).map (fun T => (M ++ [n]) ++ T) := by
            rw [HF.out, show 16 - m = (16 - (m + 1)) + 1 by omega, rns_next _ hr.out hq.out, Option.map_map]
            congr 1
            funext T
            simp
          have hM2 : (M ++ [n]).length = m + 1 := by rw [List.length_append, HM.out, List.length_singleton]
          have hq2 : q.length = N' - u := by
            have h1 := HR.out
            rw [← hdr, List.length_drop, h1]
          have hby2 : ∀ x ∈ q, x < 256 := fun x hx => HBy.out x (by rw [hsv.out]; simp [hx])
          have hc' : N' ≤ c' := by have h1 := HS.out.le; rw [HR.out] at h1; exact h1
          have hcut := cutB_from A' N' c' u huN hc'
          have hms : N' - u < N' := by omega
          have hsd := HS.out.drop u
          rw [hdr] at hsd
          obtain ⟨A2, hA2⟩ : ∃ A2, (if c' = u then A' else A'.map (·.add u)) = A2 := ⟨_, rfl⟩
          rw [hA2] at hsd hcut
          obtain ⟨N2, hN2⟩ : ∃ N2, N' - u = N2 := ⟨_, rfl⟩
          obtain ⟨c2, hc2⟩ : ∃ c2, c' - u = c2 := ⟨_, rfl⟩
          rw [hN2] at hcut hq2 hms
          rw [hc2] at hcut hsd
          have hN2b : N2 ≤ 1000 := by omega
          replace hF2 := Lib.hid hF2
          replace hM2 := Lib.hid hM2
          replace hq2 := Lib.hid hq2
          replace hby2 := Lib.hid hby2
          replace hsd := Lib.hid hsd
          replace hA2 := Lib.hid hA2
          replace hN2 := Lib.hid hN2
          replace hc2 := Lib.hid hc2
          clear hdr hle
          go_wp2_with fail
          refine CN.out.mono ?_
          rintro _ w2 ⟨rfl, h2⟩
          have hO2 := Lib.hid (HO.out.below h2 (Nat.le_refl _))
          have hz2 := h2.size
          have hB2 := Lib.hid (HB.out.trans (h2.mono hsz))
          replace h2 := Lib.hid h2
          dsimp only []
          go_wp2_with (at_builtin; refine append_int rfl (.tmp 22) (.tmp 24) rfl w.heap.size n _ M m HM.out rfl (hO2.out.alloc _) rfl (by omega) (by omega) ?_; intro g' c' w3 ho3 hb3 _; have HO3 := Lib.hid ho3; have HW3 := Lib.hid ((h2.out.mono hsz).trans (((Below.refl w.heap.size w2).alloc (by omega) _).trans hb3)); have HB3 := Lib.hid (hB2.out.trans (((Below.refl w.heap.size w2).alloc (by omega) _).trans hb3)); clear ho3 hb3)
          go_roundw
          case rel => exact ⟨N2, c2, m + 1, _, A2, _, q, M ++ [n], rfl, rfl, hN2b, by omega, hq2, hM2, hby2, Lib.hid (hsd.out.below HW3.out), HO3, hF2, HB3⟩
          case measure => exact hms
    · have hN0 : N' = 0 := by omega
      subst hN0
      have hr : r = [] := List.eq_nil_of_length_eq_zero HR.out
      have hfin : rnsF 16 l = some M := by rw [HF.out, hr, rnsF_nil]; simp
      have i1 : ¬ ((0 : Int) < ((0 : Nat) : Int)) := by omega
      have i2 : decide ((0 : Int) < (m : Int)) = decide (0 < m) := by simp
      replace hfin := Lib.hid hfin
      go_wp2_with fail
      go_returns
      exact ⟨RnsQ.yes hfin.out HM.out (by simp) HO.out, HB.out⟩
end Go.Proofs.YtpmcdkalmdlahaaDoor
namespace Go.Proofs.YtpmcdkalmdlahaaDoor
open Go.RowKit Go.Lib

/-- The builder at b holds l. -/
def Bld (w : World) (base b : Nat) (l : List UInt8) : Prop := Lib.IsBuilderF 60 5 base b (Lib.byteCells l) w
theorem Bld.new (w : World) : Bld (w.alloc (.cells #[.pointer none, .slice none 0 0] 60)) w.heap.size w.heap.size [] := Lib.IsBuilderF.of (Lib.fresh_isBuilder _ _ _)
theorem Bld.below {w w' : World} {base b : Nat} {l : List UInt8} (h : Bld w base b l) (hb : Below w.heap.size w w') : Bld w' base b l := by
  have key : ∀ p, Lib.BuilderAtF 60 5 base b p (Lib.byteCells l) w → Lib.BuilderAtF 60 5 base b p (Lib.byteCells l) w' := by
    intro p h
    have hlt := h.lt
    obtain ⟨hB, v, hv, hown, hne⟩ := h
    exact ⟨hB, v, (hb.block b hlt).trans hv, hown.kept (row := none) ⟨hb.os, hb.tape, hb.output, hb.size, fun k hk _ => hb.block k hk⟩ (Classical.em _), hne⟩
  exact h.elim (fun x => .inl (key _ x)) (fun x => .inr (key _ x))
theorem bld_write (base b : Nat) (l m : List UInt8) (w : World) (h : Bld w base b l) (hlen : l.length + m.length ≤ 1000000) (hB : base ≤ w.heap.size) :
    Calls Tryd.prog 38 #[.pointer (some ⟨b, 0, none⟩), .string (baO m)] w fun e w' => e = .returned (.tuple #[.int .i64 (baO m).size, .nilIface]) ∧ Bld w' base b (l ++ m) ∧ Below base w w' := by
  refine (wstr_any base b (Lib.byteCells l) (baO m) w h (by rw [Lib.byteCells_length, baO_size]; omega) hB).mono fun _ _ ⟨h1, h2, h3⟩ => ⟨h1, ?_, h3⟩
  unfold Bld
  rw [Lib.byteCells_append]
  exact h2
theorem bld_read (base b : Nat) (l : List UInt8) (w : World) (h : Bld w base b l) (hB : base ≤ w.heap.size) :
    Calls Tryd.prog 39 #[.pointer (some ⟨b, 0, none⟩)] w fun e w' => e = .returned (.string (baO l)) ∧ Below base w w' :=
  (Tryd.Builder_String_any_f base b l w h hB).mono fun _ _ ⟨h1, _, h3⟩ => ⟨h1, h3⟩
theorem flat_succ (L : List (List UInt8)) (k : Nat) (hk : k < L.length) : ((L.take (k + 1)).flatMap fun q => (59 : UInt8) :: q) = ((L.take k).flatMap fun q => (59 : UInt8) :: q) ++ 59 :: L[k] := by
  rw [List.take_succ_eq_append_getElem hk, List.flatMap_append]
  simp
set_option maxRecDepth 8000 in
set_option maxHeartbeats 2000000 in
theorem text_any (s : ByteArray) (A : Option Addr) (c N : Nat) (L : List (List UInt8)) (w : World) (hL : L.length = N) (hN : N ≤ 1000) (hs : s.size + wt L ≤ 100000) (hsrc : SrcO w w.heap.size A c L) :
    Calls Tryd.prog 20 #[.string s, .slice A N c] w fun e w' => e = .returned (.string (baO (s.data.toList ++ L.flatMap fun q => (59 : UInt8) :: q))) ∧ Below w.heap.size w w' := by
  obtain ⟨l, rfl⟩ : ∃ l, s = baO l := ⟨s.data.toList, rfl⟩
  rw [baO_list]
  rw [baO_size] at hs
  have hget : Hid (∀ k, k < N → ∃ ad l, A = some ad ∧ L[k]? = some l ∧ w.cell? (ad.add k) = some (.string (baO l)) ∧ ad.block < w.heap.size ∧ ((L.take (k + 1)).flatMap fun q => (59 : UInt8) :: q) = ((L.take k).flatMap fun q => (59 : UInt8) :: q) ++ 59 :: l) := Lib.hid fun k hk => by
    have hkl : k < L.length := by omega
    have hx : L[k]? = some L[k] := List.getElem?_eq_getElem hkl
    rcases A with _ | ad
    · have := hsrc.nil rfl
      have := hsrc.le
      omega
    · exact ⟨ad, L[k], rfl, hx, (hsrc.at_ ad rfl).2 k _ hx, (hsrc.at_ ad rfl).1 (by omega), flat_succ L k hkl⟩
  have hend : Hid (L.take N = L) := Lib.hid (List.take_of_length_le (by omega))
  have hwt := Lib.hid (wt_take L)
  have hle := hsrc.le
  rw [hL] at hle
  have hal : Below w.heap.size w (w.alloc (.cells #[.pointer none, .slice none 0 0] 60)) := (Below.refl _ _).alloc (Nat.le_refl _) _
  have C0 := Lib.hid (bld_write w.heap.size w.heap.size [] l _ (Bld.new w) (by simp; omega) hal.size)
  replace hal := Lib.hid hal
  replace hsrc := Lib.hid hsrc
  replace hL := Lib.hid hL
  go_enter Tryd.func20, Tryd.ntmps20
  go_wp2_with fail
  refine C0.out.mono ?_
  rintro _ w1 ⟨rfl, h1, h2⟩
  have HB0 := Lib.hid h1
  have HB1 := Lib.hid (hal.out.trans h2)
  clear h1 h2
  dsimp only []
  go_wp2_with fail
  go_loopw [12] (fun iv wr => ∃ (k : Nat), k ≤ N ∧ iv = .int .i64 (k : Int) ∧ Hid (Bld wr w.heap.size w.heap.size (l ++ ((L.take k).flatMap fun q => (59 : UInt8) :: q))) ∧ Hid (Below w.heap.size w wr)) (fun i _ => N - (RowKit.intOf i).toNat)
  case atStart => exact ⟨0, Nat.zero_le _, rfl, Lib.hid (by simpa using HB0.out), HB1⟩
  case round =>
    obtain ⟨k, hk, rfl, HX, HB⟩ := hrel
    have hsz := HB.out.size
    by_cases hlt : k < N
    · obtain ⟨ad, m, rfl, hl, hc, hbk, htk⟩ := hget.out k hlt
      have hcw : wr.cell? (ad.add k) = some (.string (baO m)) := by
        rw [HB.out.cell (p := ad.add k) (by rw [add_block]; exact hbk), hc]
      have i0 : (0 : Int) ≤ (k : Int) := by omega
      have i1 : (k : Int) < (N : Int) := by omega
      obtain ⟨X, hX⟩ : ∃ X, X = l ++ ((L.take k).flatMap fun q => (59 : UInt8) :: q) := ⟨_, rfl⟩
      rw [← hX] at HX
      have hX2 : (X ++ [59]) ++ m = l ++ ((L.take (k + 1)).flatMap fun q => (59 : UInt8) :: q) := by rw [hX, htk]; simp
      have hlen : X.length + 1 + m.length ≤ 100000 := by
        have h1 := hwt.out (k + 1)
        have h2 := congrArg List.length hX2
        simp only [List.length_append, List.length_singleton] at h2
        unfold wt at h1 hs
        omega
      have C1 := Lib.hid (bld_write w.heap.size w.heap.size X [59] wr HX.out (by simp; omega) hsz)
      replace hX := Lib.hid hX
      replace hX2 := Lib.hid hX2
      replace hl := Lib.hid hl
      replace htk := Lib.hid htk
      clear hc
      go_wp2_with fail
      refine C1.out.mono ?_
      rintro _ w2 ⟨rfl, h1, h2⟩
      have C2 := Lib.hid (bld_write w.heap.size w.heap.size (X ++ [59]) m w2 h1 (by simp; omega) (Nat.le_trans hsz h2.size))
      have HB2 := Lib.hid (HB.out.trans h2)
      clear h1 h2
      dsimp only []
      go_wp2_with fail
      refine C2.out.mono ?_
      rintro _ w3 ⟨rfl, h1, h2⟩
      rw [hX2.out] at h1
      have HX3 := Lib.hid h1
      have HB3 := Lib.hid (HB2.out.trans h2)
      clear h1 h2
      dsimp only []
      go_wp2_with fail
      go_roundw
      case rel => exact ⟨k + 1, by omega, by go_num, HX3, HB3⟩
      case measure => simp [RowKit.intOf]; omega
    · have hkk : k = N := by omega
      subst hkk
      have i1 : ¬ ((k : Int) < (k : Int)) := by omega
      rw [hend.out] at HX
      have C3 := Lib.hid (bld_read w.heap.size w.heap.size _ wr HX.out hsz)
      go_wp2_with fail
      refine C3.out.mono ?_
      rintro _ w2 ⟨rfl, h2⟩
      replace h2 := Lib.hid (HB.out.trans h2)
      dsimp only []
      go_wp2_with fail
      go_returns
      exact ⟨rfl, h2.out⟩
/-- The numbers so far, with a sign between any two. -/
theorem txA_cons (a : Nat) (L : List Nat) : txA (a :: L) = decDigits a ++ L.flatMap fun n => (46 : UInt8) :: decDigits n := by
  unfold txA jn
  simp [List.flatMap_map]
theorem txA_take (L : List Nat) (k : Nat) (hk : k < L.length) : txA (L.take (k + 1)) = if k = 0 then decDigits L[k] else (txA (L.take k) ++ [46]) ++ decDigits L[k] := by
  cases L with
  | nil => simp at hk
  | cons a L =>
    cases k with
    | zero =>
      rw [if_pos rfl]
      show txA [a] = _
      rw [txA_cons]
      simp
    | succ k =>
      rw [if_neg (by omega), List.take_succ_cons, List.take_succ_cons, txA_cons, txA_cons]
      simp only [List.length_cons] at hk
      rw [List.take_succ_eq_append_getElem (by omega), List.flatMap_append]
      simp
theorem txA_long : ∀ L : List Nat, (∀ n ∈ L, n ≤ 100000000000000) → (txA L).length ≤ 16 * L.length
  | [], _ => by simp [txA, jn]
  | a :: L, h => by
    rw [txA_cons, List.length_append, List.length_cons]
    have h1 := dec_len15 a (h a List.mem_cons_self)
    have h2 : ∀ M : List Nat, (∀ n ∈ M, n ≤ 100000000000000) → (M.flatMap fun n => (46 : UInt8) :: decDigits n).length ≤ 16 * M.length := by
      intro M
      induction M with
      | nil => simp
      | cons b M ih =>
        intro hM
        have h3 := dec_len15 b (hM b List.mem_cons_self)
        have h4 := ih fun n hn => hM n (List.mem_cons_of_mem _ hn)
        rw [List.flatMap_cons, List.length_append, List.length_cons, List.length_cons]
        omega
    have := h2 L fun n hn => h n (List.mem_cons_of_mem _ hn)
    omega
theorem dig_nat (n : Nat) (w : World) (h : n ≤ 100000000000000) (ht : Tab w) : Calls Tryd.prog 46 #[.int .i64 (n : Int)] w fun e w' => e = .returned (.string (baO (decDigits n))) ∧ Below w.heap.size w w' := by
  have e : itoa (n : Int) = decDigits n := by
    unfold itoa
    rw [if_neg (by omega)]
    rfl
  have := w_digits n w (by omega) (by omega) ht
  rw [e] at this
  exact this
set_option maxRecDepth 8000 in
set_option maxHeartbeats 2000000 in
theorem join_any (A : Option Addr) (c N : Nat) (L : List Nat) (w : World) (hL : L.length = N) (hN : N ≤ 100) (hb : ∀ n ∈ L, n ≤ 100000000000000) (hsrc : SrcN w w.heap.size A c L) (ht : Tab w) :
    Calls Tryd.prog 28 #[.slice A N c] w fun e w' => e = .returned (.string (baO (txA L))) ∧ Below w.heap.size w w' := by
  have hget : Hid (∀ k, k < N → ∃ (ad : Addr) (n : Nat), A = some ad ∧ n ≤ 100000000000000 ∧ w.cell? (ad.add k) = some (.int .i64 (n : Int)) ∧ ad.block < w.heap.size ∧ txA (L.take (k + 1)) = if k = 0 then decDigits n else (txA (L.take k) ++ [46]) ++ decDigits n) := Lib.hid fun k hk => by
    have hkl : k < L.length := by omega
    obtain ⟨ad, h1, h2, h3⟩ := hsrc.get k hkl
    exact ⟨ad, L[k], h1, hb _ (List.getElem_mem hkl), h2, h3, txA_take L k hkl⟩
  have hend : Hid (L.take N = L) := Lib.hid (List.take_of_length_le (by omega))
  have hlong : Hid (∀ k, k ≤ N → (txA (L.take k)).length ≤ 1600) := Lib.hid fun k hk => by
    have h1 := txA_long (L.take k) fun n hn => hb n (List.mem_of_mem_take hn)
    rw [List.length_take] at h1
    omega
  have hle := hsrc.le
  rw [hL] at hle
  have hal : Below w.heap.size w (w.alloc (.cells #[.pointer none, .slice none 0 0] 60)) := (Below.refl _ _).alloc (Nat.le_refl _) _
  have HB0 := Lib.hid (Bld.new w)
  replace hal := Lib.hid hal
  replace hsrc := Lib.hid hsrc
  replace hL := Lib.hid hL
  replace hb := Lib.hid hb
  replace ht := Lib.hid ht
  go_enter Tryd.func28, Tryd.ntmps28
  go_wp2_with fail
  go_loopw [8] (fun iv wr => ∃ (k : Nat), k ≤ N ∧ iv = .int .i64 (k : Int) ∧ Hid (Bld wr w.heap.size w.heap.size (txA (L.take k))) ∧ Hid (Below w.heap.size w wr)) (fun i _ => N - (RowKit.intOf i).toNat)
  case atStart => exact ⟨0, Nat.zero_le _, rfl, HB0, hal⟩
  case round =>
    obtain ⟨k, hk, rfl, HX, HB⟩ := hrel
    have hsz := HB.out.size
    by_cases hlt : k < N
    · obtain ⟨ad, n, rfl, hn, hc, hbk, htk⟩ := hget.out k hlt
      have hcw : wr.cell? (ad.add k) = some (.int .i64 (n : Int)) := by
        rw [HB.out.cell (p := ad.add k) (by rw [add_block]; exact hbk), hc]
      have i0 : (0 : Int) ≤ (k : Int) := by omega
      have i1 : (k : Int) < (N : Int) := by omega
      have hlX := hlong.out k hk
      have hl15 := dec_len15 n hn
      obtain ⟨X, hX⟩ : ∃ X, X = txA (L.take k) := ⟨_, rfl⟩
      obtain ⟨D, hD⟩ : ∃ D, D = decDigits n := ⟨_, rfl⟩
      rw [← hX] at HX hlX htk
      have CD := fun W (hW : Below w.heap.size w W) => dig_nat n W hn (ht.out.below hW)
      rw [← hD] at CD htk hl15
      replace CD := Lib.hid CD
      replace hX := Lib.hid hX
      replace hD := Lib.hid hD
      clear hc
      by_cases hk0 : k = 0
      · have hXe : X = [] := by rw [hX.out, hk0]; rfl
        rw [if_pos hk0] at htk
        have j1 : ¬ ((0 : Int) < (k : Int)) := by omega
        replace hk0 := Lib.hid hk0
        replace htk := Lib.hid htk
        have hXe' := Lib.hid hXe
        clear hXe
        go_wp2_with fail
        refine (CD.out wr HB.out).mono ?_
        rintro _ w2 ⟨rfl, h2⟩
        have C2 := Lib.hid (bld_write w.heap.size w.heap.size X D w2 (HX.out.below h2) (by omega) (Nat.le_trans hsz h2.size))
        have HB2 := Lib.hid (HB.out.trans (h2.mono hsz))
        clear h2
        dsimp only []
        go_wp2_with fail
        refine C2.out.mono ?_
        rintro _ w3 ⟨rfl, h1, h2⟩
        rw [hXe'.out, List.nil_append, ← htk.out] at h1
        have HX3 := Lib.hid h1
        have HB3 := Lib.hid (HB2.out.trans h2)
        clear h1 h2
        dsimp only []
        go_wp2_with fail
        go_roundw
        case rel => exact ⟨k + 1, by omega, by go_num, HX3, HB3⟩
        case measure => simp [RowKit.intOf]; omega
      · rw [if_neg hk0] at htk
        have j1 : (0 : Int) < (k : Int) := by omega
        have C1 := Lib.hid (bld_write w.heap.size w.heap.size X [46] wr HX.out (by simp; omega) hsz)
        replace htk := Lib.hid htk
        go_wp2_with fail
        refine C1.out.mono ?_
        rintro _ w1 ⟨rfl, h1, h2⟩
        have HX1 := Lib.hid h1
        have HB1 := Lib.hid (HB.out.trans h2)
        have hsz1 := h2.size
        clear h1 h2
        dsimp only []
        go_wp2_with fail
        refine (CD.out w1 HB1.out).mono ?_
        rintro _ w2 ⟨rfl, h2⟩
        have C2 := Lib.hid (bld_write w.heap.size w.heap.size (X ++ [46]) D w2 (HX1.out.below h2) (by simp; omega) (Nat.le_trans (Nat.le_trans hsz hsz1) h2.size))
        have HB2 := Lib.hid (HB1.out.trans (h2.mono (Nat.le_trans hsz hsz1)))
        clear h2
        dsimp only []
        go_wp2_with fail
        refine C2.out.mono ?_
        rintro _ w3 ⟨rfl, h1, h2⟩
        rw [← htk.out] at h1
        have HX3 := Lib.hid h1
        have HB3 := Lib.hid (HB2.out.trans h2)
        clear h1 h2
        dsimp only []
        go_wp2_with fail
        go_roundw
        case rel => exact ⟨k + 1, by omega, by go_num, HX3, HB3⟩
        case measure => simp [RowKit.intOf]; omega
    · have hkk : k = N := by omega
      subst hkk
      have i1 : ¬ ((k : Int) < (k : Int)) := by omega
      rw [hend.out] at HX
      have C3 := Lib.hid (bld_read w.heap.size w.heap.size _ wr HX.out hsz)
      go_wp2_with fail
      refine C3.out.mono ?_
      rintro _ w2 ⟨rfl, h2⟩
      replace h2 := Lib.hid (HB.out.trans h2)
      dsimp only []
      go_wp2_with fail
      go_returns
      exact ⟨rfl, h2.out⟩
end Go.Proofs.YtpmcdkalmdlahaaDoor
namespace Go.Proofs.YtpmcdkalmdlahaaDoor
open Go.RowKit Go.Lib

theorem rn7_lt : ∀ (k n : Nat) (l r : List Nat) (m : Nat), rn7 k n l = some (m, r) → m < (n + 1) * 128 ^ k
  | 0, _, _, _, _, h => by rw [rn7] at h; cases h
  | _ + 1, _, [], _, _, h => by rw [rn7] at h; cases h
  | k + 1, n, c :: l, r, m, h => by
    rw [rn7] at h
    have hp : 0 < 128 ^ k := Nat.pow_pos (by omega)
    have e : (n + 1) * 128 ^ (k + 1) = ((n + 1) * 128) * 128 ^ k := by rw [Nat.pow_succ, Nat.mul_comm (128 ^ k), Nat.mul_assoc]
    rw [e]
    split at h
    · injection h with h
      injection h with h2 h3
      subst h2
      exact Nat.lt_of_lt_of_le (by omega) (Nat.le_mul_of_pos_right _ hp)
    · have h1 := rn7_lt k _ l r m h
      exact Nat.lt_of_lt_of_le h1 (Nat.mul_le_mul_right _ (by omega))
theorem rnum_lt {l r : List Nat} {m : Nat} (h : rnum l = some (m, r)) : m < 34359738368 := by
  unfold rnum at h
  split at h
  · cases h
  · exact rn7_lt 5 0 l r m h
theorem rnsF_lt : ∀ (k : Nat) (l M : List Nat), rnsF k l = some M → ∀ n ∈ M, n < 34359738368
  | k, [], M, h => by
    rw [rnsF_nil] at h
    injection h with h
    subst h
    intro n hn
    cases hn
  | 0, c :: r, M, h => by
    rw [rnsF_zero (by simp)] at h
    cases h
  | k + 1, c :: r, M, h => by
    rw [rnsF] at h
    cases hq : rnum (c :: r) with
    | none => rw [hq] at h; cases h
    | some q =>
      rw [hq] at h
      dsimp only [] at h
      cases h2 : rnsF k q.2 with
      | none => rw [h2] at h; cases h
      | some T =>
        rw [h2] at h
        injection h with h
        subst h
        intro n hn
        rcases List.mem_cons.1 hn with rfl | hn
        · exact rnum_lt (r := q.2) hq
        · exact rnsF_lt k q.2 T h2 n hn
theorem OwnN.two (w : World) (base a b : Nat) (x y : Int) (hx : x = (a : Int)) (hy : y = (b : Int)) (hb : base ≤ w.heap.size) : OwnN (w.alloc (.cells #[.int .i64 x, .int .i64 y] 3)) base (.slice (some ⟨w.heap.size, 0, none⟩) 2 2) [a, b] := by
  subst hx hy
  exact ⟨rfl, .inr ⟨w.heap.size, 2, _, rfl, hb, heap_alloc_new w _, Nat.le_refl _, by decide, rfl, rfl⟩⟩
theorem SrcN.cells {w : World} {K : Nat} {ad : Addr} {c : Nat} {L : List Nat} (h : SrcN w K (some ad) c L) : ∀ j u, (cellsI L)[j]? = some u → w.cell? (ad.add j) = some u := by
  intro j u hj
  unfold cellsI at hj
  rw [List.getElem?_map, Option.map_eq_some_iff] at hj
  obtain ⟨n, h1, rfl⟩ := hj
  exact (h.at_ ad rfl).2 j n h1
theorem step_ints {w : World} {ops : Array Oper} {o : Oper} {a : Act} {K : Act → World → Prop} {Q : Exit → Act → World → Prop} {E : Prop} (hgd : o.guard = none) (s x : Operand)
    (ho : o.op = .call { callee := .builtin .append, args := #[s, x], argTypes := #[43, 43] })
    (base : Nat) (v : Value) (L : List Nat) (n : Nat) (hn : L.length = n) (hs : a.eval s = v) (hown : OwnN w base v L)
    (B : Nat) (A : Option Addr) (m c : Nat) (M : List Nat) (hm : M.length = m) (hx : a.eval x = .slice A m c) (hsrc : SrcN w B A c M)
    (N : Nat) (hN : n + m = N) (hlen : N ≤ 2000000) (hbase : base ≤ w.heap.size)
    (h : ∀ A' c' w', OwnN w' base (.slice A' N c') (L ++ M) → Below base w w' → K (a.put o.dst (.slice A' N c')) w') :
    if Region.wanted o (yielded ops a.tmps) = true then Oper.wp Tryd.prog o a w K Q else E := by
  have hw : Region.wanted o (yielded ops a.tmps) = true := by simp [Region.wanted, hgd]
  rw [if_pos hw]
  obtain ⟨i0, hi, hz0, hz1, hz2⟩ := info_parts info_int
  subst hn hm hN
  have hcl : ∀ T : List Nat, (cellsI T).length = T.length := fun T => by simp [cellsI]
  rcases A with _ | ad
  · have hc : c = 0 := hsrc.nil rfl
    have hm : M = [] := List.eq_nil_of_length_eq_zero (by have := hsrc.le; omega)
    subst hc hm
    have hrun := run_append_owned_none (P := Tryd.prog) (w := w) base 43 o.type 3 i0 1 Tryd.underlying43 hi v L.length (cellsI L) hown
    obtain ⟨A', c', rfl⟩ := hown.shape
    unfold Oper.wp
    simp only [List.length_nil] at hx
    simp [execOp, ho, resolve, invoke, builtin, hs, hx, hrun, Result.andThen]
    have t : K (a.put o.dst (.slice A' L.length c')) w := by
      have := h A' c' w (by rw [List.append_nil]; exact hown) (Below.refl _ _)
      simpa using this
    exact t
  · obtain ⟨v', w', hr, hown', hg, _⟩ := run_append_own (P := Tryd.prog) (w := w) base 43 o.type 3 i0 _ 1 8 Tryd.underlying43 hi hz0 hz1 hz2 rfl (by decide) v L.length (cellsI L) hown ad M.length c (cellsI M) (by rw [hcl, Nat.mul_one]) hsrc.cells (fun u hu => by
      obtain ⟨l, _, rfl⟩ := List.mem_map.1 hu
      rfl) (by simp only [maxLen]; omega) (by omega) hbase
    have hO : OwnN w' base v' (L ++ M) := by
      unfold OwnN
      rw [List.length_append, show cellsI (L ++ M) = cellsI L ++ cellsI M by simp [cellsI]]
      exact hown'
    obtain ⟨A', c', rfl⟩ := hO.shape
    unfold Oper.wp execOp
    simp only [ho, resolve, invoke, builtin, Sem.run_bind, Sem.run_pure, Result.andThen_ok, List.map_toArray, List.map_cons, List.map_nil, hs, hx, hr]
    rw [List.length_append] at hO ⊢
    exact h A' c' w' hO ((Below.refl _ _).grown hg hbase (fun k hk => (hown.lt k hk).1))
set_option maxRecDepth 8000 in
set_option maxHeartbeats 4000000 in
theorem read_any (A : Option Addr) (cp N : Nat) (l : List Nat) (w : World) (hN : l.length = N) (hN3 : N ≤ 1000) (hb : ∀ x ∈ l, x < 256) (hs : Src w w.heap.size A cp l) (ht : Tab w) :
    Calls Tryd.prog 10 #[.slice A N cp] w fun e w' => e = .returned (.tuple #[.string (baO (rdO l).1), .int .i64 ((rdO l).2 : Int)]) ∧ Below w.heap.size w w' := by
  have CN := rnums_any A cp N l w hN hN3 hs hb
  rcases hF : rnsF 16 l with _ | M
  · have CN' : Hid (Calls Tryd.prog 27 #[.slice A N cp] w fun e w' => e = .returned (.tuple #[.slice none 0 0, .bool false]) ∧ Below w.heap.size w w') := Lib.hid (CN.mono fun e w' ⟨h1, h2⟩ => ⟨by unfold RnsQ at h1; rw [hF] at h1; exact h1, h2⟩)
    have hfin : rdO l = ([], 11) := rdO_none (rd_none (.inl hF))
    clear CN
    replace hF := Lib.hid hF
    replace hfin := Lib.hid hfin
    go_enter Tryd.func10, Tryd.ntmps10
    go_wp2_with fail
    refine CN'.out.mono ?_
    rintro _ w1 ⟨rfl, h2⟩
    replace h2 := Lib.hid h2
    dsimp only []
    go_wp2_with fail
    go_returns
    exact ⟨by rw [hfin.out]; rfl, h2.out⟩
  · rcases M with _ | ⟨c, r⟩
    · have CN' : Hid (Calls Tryd.prog 27 #[.slice A N cp] w fun e w' => ∃ A1 c1, e = .returned (.tuple #[.slice A1 0 c1, .bool false]) ∧ Below w.heap.size w w') := Lib.hid (CN.mono fun e w' ⟨h1, h2⟩ => by
        unfold RnsQ at h1
        rw [hF] at h1
        obtain ⟨A1, c1, h3, _⟩ := h1
        exact ⟨A1, c1, h3, h2⟩)
      have hfin : rdO l = ([], 11) := rdO_none (rd_none (.inr hF))
      clear CN
      replace hF := Lib.hid hF
      replace hfin := Lib.hid hfin
      go_enter Tryd.func10, Tryd.ntmps10
      go_wp2_with fail
      refine CN'.out.mono ?_
      rintro _ w1 ⟨A1, c1, rfl, h2⟩
      replace h2 := Lib.hid h2
      dsimp only []
      go_wp2_with fail
      go_returns
      exact ⟨by rw [hfin.out]; rfl, h2.out⟩
    · have hlt := rnsF_lt 16 l _ hF
      have hl16 := (rnsF_sv 16 l _ hb hF).2
      obtain ⟨m, hm⟩ : ∃ m, m = (c :: r).length := ⟨_, rfl⟩
      have hm1 : m ≤ r.length + 1 := by rw [hm]; exact Nat.le_refl _
      have hm2 : r.length + 1 ≤ m := by rw [hm]; exact Nat.le_refl _
      have hm16 : m ≤ 16 := by rw [hm]; exact hl16
      have CN' : Hid (Calls Tryd.prog 27 #[.slice A N cp] w fun e w' => ∃ g c1, e = .returned (.tuple #[.slice (some ⟨g, 0, none⟩) m c1, .bool true]) ∧ OwnN w' w.heap.size (.slice (some ⟨g, 0, none⟩) m c1) (c :: r) ∧ Below w.heap.size w w') := Lib.hid (CN.mono fun e w' ⟨h1, h2⟩ => by
        unfold RnsQ at h1
        rw [hF] at h1
        obtain ⟨A1, c1, h3, h4⟩ := h1
        obtain ⟨g, c2, h5, _⟩ := h4.form (by simp)
        injection h5 with h6 _ h7
        subst h6 h7
        rw [hm]
        exact ⟨g, c1, h3, h4, h2⟩)
      clear CN hl16
      have hc := hlt c (by simp)
      obtain ⟨q0, hq0⟩ : ∃ q0, q0 = c / 40 := ⟨_, rfl⟩
      obtain ⟨q, hq⟩ : ∃ q, q = min (c / 40) 2 := ⟨_, rfl⟩
      obtain ⟨z, hz⟩ : ∃ z, z = c - 40 * q := ⟨_, rfl⟩
      have hU : unfoldA (c :: r) = q :: z :: r := by rw [hz, hq]; rfl
      have hq2 : q ≤ 2 := by omega
      have m1 : (c : Int) / 40 = (q0 : Int) := by omega
      have m2 : (c : Int).tdiv 40 = (q0 : Int) := by rw [Int.tdiv_eq_ediv_of_nonneg (by omega)]; exact m1
      have m3 : min (q0 : Int) 2 = (q : Int) := by omega
      have m4 : (q0 : Int) ≤ 1000000000000 := by omega
      have m5 : (c : Int) - (q : Int) * 40 = (z : Int) := by omega
      have m6 : c ≤ 34359738367 := by omega
      have hUb : ∀ n ∈ q :: z :: r, n ≤ 100000000000000 := by
        intro n hn
        rcases List.mem_cons.1 hn with rfl | hn
        · omega
        · rcases List.mem_cons.1 hn with rfl | hn
          · omega
          · have := hlt n (by simp [hn])
            omega
      have hsz0 : (baO (txA (q :: z :: r))).size ≤ 1000 := by
        rw [baO_size]
        have := txA_long _ hUb
        simp only [List.length_cons] at this
        omega
      have CM := fun W => numeric_any (baO (txA (q :: z :: r))) W hsz0
      rw [baO_list] at CM
      have hbad := fun h => rdO_none (rd_bad (l := l) hF h)
      have hgood := fun L h => rdO_some (rd_good (L := L) hb hF (by simp) h)
      rw [hU] at hbad hgood
      replace CM := Lib.hid CM
      replace hbad := Lib.hid hbad
      replace hgood := Lib.hid hgood
      replace hlt := Lib.hid hlt
      replace hF := Lib.hid hF
      replace hm := Lib.hid hm
      replace hb := Lib.hid hb
      replace hs := Lib.hid hs
      replace ht := Lib.hid ht
      replace hU := Lib.hid hU
      replace hUb := Lib.hid hUb
      replace hq0 := Lib.hid hq0
      replace hq := Lib.hid hq
      replace hz := Lib.hid hz
      replace hsz0 := Lib.hid hsz0
      go_enter Tryd.func10, Tryd.ntmps10
      go_wp2_with fail
      refine CN'.out.mono ?_
      rintro _ w1 ⟨g, c1, rfl, ho, hb1⟩
      have HB1 := Lib.hid hb1
      have hz1 := hb1.size
      have hsrc := ho.src
      have hle := hsrc.le
      obtain ⟨ad0, e0, hcell, _⟩ := hsrc.get 0 (by simp)
      injection e0 with e0
      subst e0
      have hcell0 : w1.cell? ⟨g, 0, none⟩ = some (.int .i64 (c : Int)) := hcell
      have hmc : m ≤ c1 := by rw [hm.out]; exact hle
      have hdr := hsrc.drop 1
      rw [show (c :: r).drop 1 = r from rfl] at hdr
      have hcut : ∀ W, (Instr.sliceAt 43 (.slice (some ⟨g, 0, none⟩) m c1) (some (.int .i64 1)) none none).run Tryd.prog W = .ok (.slice (if c1 = 1 then some ⟨g, 0, none⟩ else (some (⟨g, 0, none⟩ : Addr)).map (·.add 1)) (m - 1) (c1 - 1)) W := cutN_from (some ⟨g, 0, none⟩) m c1 1 (by omega) hmc
      obtain ⟨A5, hA5⟩ : ∃ A5, (if c1 = 1 then some (⟨g, 0, none⟩ : Addr) else (some (⟨g, 0, none⟩ : Addr)).map (·.add 1)) = A5 := ⟨_, rfl⟩
      rw [hA5] at hdr hcut
      obtain ⟨n5, hn5⟩ : ∃ n5, m - 1 = n5 := ⟨_, rfl⟩
      obtain ⟨c5, hc5⟩ : ∃ c5, c1 - 1 = c5 := ⟨_, rfl⟩
      rw [hn5, hc5] at hcut
      rw [hc5] at hdr
      have hn5r : r.length = n5 := by omega
      have hn15 : n5 ≤ 15 := by omega
      have HD := Lib.hid hdr
      have hw1 : IntKind.i64.wrap ((q : Int) * 40) = (q : Int) * 40 := IntWalk.i64_in _ (by omega)
      have hw2 : IntKind.i64.wrap ((c : Int) - (q : Int) * 40) = (z : Int) := by rw [m5]; exact IntWalk.i64_in _ (by omega)
      have hw3 : IntKind.i64.wrap (z : Int) = (z : Int) := IntWalk.i64_in _ (by omega)
      have k1 : (0 : Int) < (m : Int) := by omega
      have k3 : 0 < m := by omega
      replace hA5 := Lib.hid hA5
      replace hn5 := Lib.hid hn5
      replace hc5 := Lib.hid hc5
      replace hn5r := Lib.hid hn5r
      replace ho := Lib.hid ho
      clear hdr hsrc hm1 hm2 hcell hle hb1
      dsimp only []
      go_wp2_with fail
      have HW := Lib.hid (fun o => ((Below.refl w1.heap.size w1).alloc (Nat.le_refl _) o).drew)
      go_region_law (first
        | (refine step_ints rfl (.tmp 27) (.tmp 29) rfl w1.heap.size _ [q, z] 2 rfl rfl (World.ownsRow.drew (OwnN.two w1 _ q z _ _ rfl rfl (Nat.le_refl _))) w1.heap.size A5 n5 c5 r hn5r.out rfl (HD.out.below (HW.out _)) (2 + n5) rfl (by omega) (HW.out (.cells #[.int .i64 (q : Int), .int .i64 (z : Int)] 3)).size ?_; intro A7 c7 w7 ho7 hb7; have HO7 := Lib.hid ho7; have HB7 := Lib.hid ((HW.out _).trans hb7); clear ho7 hb7)
        | (go_simp; go_at_call 28; refine (join_any A7 c7 (2 + n5) (q :: z :: r) w7 (by simp [hn5r.out]; omega) (by omega) hUb.out HO7.out.src ((ht.out.below HB1.out).below HB7.out)).mono ?_; rintro _ w8 ⟨rfl, hb8⟩))
      all_goals
        have HB8 := Lib.hid (HB1.out.trans ((HB7.out.trans (hb8.mono HB7.out.size)).mono hz1))
        clear hb8 HO7 HB7
        have CX := Lib.hid (CM.out w8)
        go_wp2_with fail
        refine CX.out.mono ?_
        rintro _ w9 ⟨rfl, hb9⟩
        have HB9 := Lib.hid (HB8.out.trans (hb9.mono HB8.out.size))
        clear hb9
        rcases hX : arcsO (txA (q :: z :: r)) with _ | L
        · have hfin := Lib.hid (hbad.out hX)
          replace hX := Lib.hid hX
          dsimp only [Option.isSome]
          go_wp2_with fail
          go_returns
          exact ⟨by rw [hfin.out]; rfl, HB9.out⟩
        · have hfin := Lib.hid (hgood.out L hX)
          replace hX := Lib.hid hX
          dsimp only [Option.isSome]
          go_wp2_with fail
          go_returns
          exact ⟨by rw [hfin.out]; rfl, HB9.out⟩
end Go.Proofs.YtpmcdkalmdlahaaDoor
