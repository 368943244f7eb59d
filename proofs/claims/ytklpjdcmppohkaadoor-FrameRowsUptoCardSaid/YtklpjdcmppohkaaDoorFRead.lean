/-
  The program's readLength and readSum.
-/
import Derived.Test.YtklpjdcmppohkaaDoorFMore
namespace Go.Proofs.YtklpjdcmppohkaaDoor
open Go.RowKit

/-- Bytes as a number, highest first; lowest first. -/
def beF (l : List Nat) : Nat := l.foldl (fun s c => s * 256 + c) 0
theorem beF_snoc (l : List Nat) (c : Nat) : beF (l ++ [c]) = beF l * 256 + c := by
  unfold beF
  rw [List.foldl_append]
  rfl
def leF : List Nat → Nat
  | [] => 0
  | c :: l => c + 256 * leF l
theorem leF_snoc : ∀ (l : List Nat) (c : Nat), leF (l ++ [c]) = leF l + 256 ^ l.length * c
  | [], c => by simp [leF]
  | x :: l, c => by
    rw [List.cons_append, leF, leF_snoc l c, leF, List.length_cons, Nat.pow_succ, Nat.mul_add, Nat.add_assoc, Nat.mul_comm _ 256, Nat.mul_assoc]
theorem leF_lt : ∀ (l : List Nat), (∀ x ∈ l, x < 256) → leF l < 256 ^ l.length
  | [], _ => by simp [leF]
  | x :: l, h => by
    have h1 := leF_lt l fun y hy => h y (List.mem_cons_of_mem _ hy)
    have h2 := h x (List.mem_cons_self ..)
    rw [leF, List.length_cons, Nat.pow_succ]
    omega
theorem take4 (l : List Nat) (h : 4 ≤ l.length) : l.take 4 = [at4 l 0, at4 l 1, at4 l 2, at4 l 3] := by
  match l, h with
  | a :: b :: c :: d :: l, _ => rfl
theorem beF_lenF (l : List Nat) (h : 4 ≤ l.length) : beF (l.take 4) = lenF l := by
  rw [take4 l h]
  simp [beF, lenF, be4]
theorem leF_sumF (l : List Nat) (n : Nat) (h : n + 8 ≤ l.length) : leF ((l.drop (n + 4)).take 4) = sumF l n := by
  have e : ∀ k, at4 (l.drop (n + 4)) k = at4 l (n + 4 + k) := fun k => by
    unfold at4
    rw [List.getD_eq_getElem?_getD, List.getD_eq_getElem?_getD, List.getElem?_drop]
  rw [take4 _ (by rw [List.length_drop]; omega), e, e, e, e]
  simp only [leF, sumF, be4, Nat.add_assoc, Nat.reduceAdd]
  omega

set_option maxRecDepth 4000 in
set_option maxHeartbeats 800000 in
theorem readLength_any (ad : Addr) (cp L : Nat) (l : List Nat) (w : World) (K : Nat) (hs : Src w K (some ad) cp l) (hL : l.length = L) (h4 : 4 ≤ L) (hl : L ≤ 1048600) (hby : ∀ x ∈ l, x < 256) :
    Calls Tryd.prog 18 #[.slice (some ad) L cp] w fun e w' => e = .returned (.int .u32 ((lenF l : Nat) : Int)) ∧ w' = w := by
  have hl0 := hs.le
  rw [hL] at hl0
  have hget : Hid (∀ k, k < 4 → ∃ x : Nat, l[k]? = some x ∧ x < 256 ∧ w.cell? (ad.add k) = some (.int .u8 (x : Int)) ∧ beF (l.take (k + 1)) = beF (l.take k) * 256 + x ∧ beF (l.take k) < 16777216 ∧ bits .or .u32 ((beF (l.take k) : Int) * 256) (x : Int) = ((beF (l.take (k + 1)) : Nat) : Int)) := Lib.hid fun k hk => by
    have hkl : k < l.length := by omega
    have hx : l[k]? = some l[k] := by simp
    have e : beF (l.take (k + 1)) = beF (l.take k) * 256 + l[k] := by rw [List.take_succ_eq_append_getElem hkl, beF_snoc]
    have hb := hby _ (List.getElem_mem hkl)
    have hlt : beF (l.take k) < 16777216 := by
      have g : ∀ k, at4 l k < 256 := fun k => by
        unfold at4
        rw [List.getD_eq_getElem?_getD]
        rcases Nat.lt_or_ge k l.length with h | h
        · rw [List.getElem?_eq_getElem h]
          exact hby _ (List.getElem_mem h)
        · rw [List.getElem?_eq_none h]
          exact Nat.zero_lt_succ _
      have g0 := g 0
      have g1 := g 1
      have g2 := g 2
      have e3 : l.take k = (l.take 4).take k := by rw [List.take_take, Nat.min_eq_left (by omega)]
      rw [e3, take4 l (by omega)]
      match k, hk with
      | 0, _ => simp [beF]
      | 1, _ => simp [beF]; omega
      | 2, _ => simp [beF]; omega
      | 3, _ => simp [beF]; omega
    refine ⟨l[k], hx, hb, (hs.at_ ad rfl).2 k _ hx, e, hlt, ?_⟩
    have e1 : ((beF (l.take k) : Int) * 256) = ((beF (l.take k) * 256 : Nat) : Int) := by omega
    rw [e1, bits_or32 _ _ (by omega) (by omega), e]
    rw [show beF (l.take k) * 256 = 2 ^ 8 * beF (l.take k) by omega, or_add 8 _ _ (by omega)]
  have hfin : Hid (beF (l.take 4) = lenF l) := Lib.hid (beF_lenF l (by omega))
  have i4 : (4 : Int) ≤ (cp : Int) := by omega
  replace hs := Lib.hid hs
  replace hby := Lib.hid hby
  replace hL := Lib.hid hL
  go_enter Tryd.func18, Tryd.ntmps18
  go_wp2_with fail
  go_loop [3, 9] (fun r i => ∃ k : Nat, k ≤ 4 ∧ i = .int .i64 (k : Int) ∧ r = .int .u32 ((beF (l.take k) : Nat) : Int)) (fun _ i => 4 - (intOf i).toNat)
  case atStart => exact ⟨0, Nat.zero_le _, rfl, rfl⟩
  case round =>
    obtain ⟨k, hk, rfl, rfl⟩ := hrel
    by_cases hkl : k < 4
    · obtain ⟨x, hx, hx2, hc, hn, hlt, hor⟩ := hget.out k hkl
      obtain ⟨r, hrr⟩ : ∃ r, r = beF (l.take k) := ⟨_, rfl⟩
      obtain ⟨q, hqq⟩ : ∃ q, q = beF (l.take (k + 1)) := ⟨_, rfl⟩
      rw [← hrr] at hlt hor ⊢
      rw [← hqq] at hor
      have i0 : (0 : Int) ≤ (k : Int) := by omega
      have i1 : (k : Int) < 4 := by omega
      replace hrr := Lib.hid hrr
      replace hqq := Lib.hid hqq
      replace hx := Lib.hid hx
      replace hn := Lib.hid hn
      go_wp2_with fail
      go_round
      case rel => exact ⟨k + 1, by omega, by go_num, by rw [← hqq.out]⟩
      case measure => simp [intOf]; omega
    · have hkk : k = 4 := by omega
      subst hkk
      rw [hfin.out]
      go_wp2_with fail
      go_ret
      exact ⟨rfl, rfl⟩

theorem le_step (a k x : Nat) (hk : k < 4) (ha : a < 256 ^ k) (hx : x < 256) : bits .or .u32 (a : Int) ((x : Int) * 2 ^ (k * 8) % 4294967296) = ((a + 256 ^ k * x : Nat) : Int) := by
  have e : (256 : Nat) ^ k = 2 ^ (k * 8) := by rw [Nat.mul_comm, Nat.pow_mul]
  have hp : 256 ^ k * x < 4294967296 ∧ a < 4294967296 := by
    match k, hk with
    | 0, _ => simp at ha ⊢; omega
    | 1, _ => simp at ha ⊢; omega
    | 2, _ => simp at ha ⊢; omega
    | 3, _ => simp at ha ⊢; omega
  have e2 : ((x : Int) * 2 ^ (k * 8) % 4294967296) = ((256 ^ k * x : Nat) : Int) := by
    have : ((x : Int) * 2 ^ (k * 8)) = ((256 ^ k * x : Nat) : Int) := by
      rw [e]
      simp
      exact Int.mul_comm ..
    rw [this]
    omega
  rw [e2, bits_or32 _ _ hp.2 hp.1, Nat.or_comm, e, or_add _ _ _ (by rw [← e]; exact ha), Nat.add_comm]

set_option maxRecDepth 4000 in
set_option maxHeartbeats 800000 in
theorem readSum_any (ad : Addr) (cp L : Nat) (l : List Nat) (w : World) (K : Nat) (hs : Src w K (some ad) cp l) (hL : l.length = L) (h4 : 4 ≤ L) (hl : L ≤ 1048600) (hby : ∀ x ∈ l, x < 256) :
    Calls Tryd.prog 19 #[.slice (some ad) L cp] w fun e w' => e = .returned (.int .u32 ((leF (l.take 4) : Nat) : Int)) ∧ w' = w := by
  have hl0 := hs.le
  rw [hL] at hl0
  have hget : Hid (∀ k, k < 4 → ∃ x : Nat, x < 256 ∧ w.cell? (ad.add k) = some (.int .u8 (x : Int)) ∧ bits .or .u32 (leF (l.take k) : Int) ((x : Int) * 2 ^ (k * 8) % 4294967296) = ((leF (l.take (k + 1)) : Nat) : Int)) := Lib.hid fun k hk => by
    have hkl : k < l.length := by omega
    have hx : l[k]? = some l[k] := by simp
    have hk' : (l.take k).length = k := by rw [List.length_take]; omega
    have hlt := leF_lt (l.take k) fun x hx => hby x (List.mem_of_mem_take hx)
    rw [hk'] at hlt
    refine ⟨l[k], hby _ (List.getElem_mem hkl), (hs.at_ ad rfl).2 k _ hx, ?_⟩
    rw [le_step _ _ _ hk hlt (hby _ (List.getElem_mem hkl)), List.take_succ_eq_append_getElem hkl, leF_snoc, hk']
  have i4 : (4 : Int) ≤ (cp : Int) := by omega
  replace hs := Lib.hid hs
  replace hby := Lib.hid hby
  replace hL := Lib.hid hL
  go_enter Tryd.func19, Tryd.ntmps19
  go_wp2_with fail
  go_loop [3, 9] (fun r i => ∃ k : Nat, k ≤ 4 ∧ i = .int .i64 (k : Int) ∧ r = .int .u32 ((leF (l.take k) : Nat) : Int)) (fun _ i => 4 - (intOf i).toNat)
  case atStart => exact ⟨0, Nat.zero_le _, rfl, rfl⟩
  case round =>
    obtain ⟨k, hk, rfl, rfl⟩ := hrel
    by_cases hkl : k < 4
    · obtain ⟨x, hx2, hc, hor⟩ := hget.out k hkl
      have i0 : (0 : Int) ≤ (k : Int) := by omega
      have i1 : (k : Int) < 4 := by omega
      go_wp2_with fail
      refine ⟨⟨k + 1, by omega, by go_num, rfl⟩, by simp [intOf]; omega⟩
    · have hkk : k = 4 := by omega
      subst hkk
      go_wp2_with fail
      go_ret
      exact ⟨rfl, rfl⟩
end Go.Proofs.YtklpjdcmppohkaaDoor
