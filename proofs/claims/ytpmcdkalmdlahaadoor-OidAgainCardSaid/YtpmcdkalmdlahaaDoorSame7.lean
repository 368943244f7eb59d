/-
  The law package's comparison of two rows of strings that read alike.
-/
import Derived.Test.YtpmcdkalmdlahaaDoorOHyp
import Derived.Deep.QuietTactic
import Derived.BigQuiet
namespace Go.Proofs.YtpmcdkalmdlahaaDoor
open Go.RowKit Go.Lib

theorem below_drewN7 {K : Nat} {w w' : World} (h : Below K w w') : ∀ n, Below K w (w'.drewN n)
  | 0 => h
  | n + 1 => (below_drewN7 h n).drew
theorem wt_ge : ∀ O : List (List UInt8), O.length ≤ wt O
  | [] => Nat.zero_le _
  | x :: O => by
    rw [wt_cons, List.length_cons]
    have := wt_ge O
    omega
set_option maxRecDepth 8000 in
set_option maxHeartbeats 1600000 in
theorem same7_any (A B : Option Addr) (c d N : Nat) (L : List (List UInt8)) (w : World) (hN : L.length = N) (hN1 : N ≤ 1000) (h1 : SrcO w w.heap.size A c L) (h2 : SrcO w w.heap.size B d L) :
    Calls Tryd.prog 19 #[.slice A N c, .slice B N d] w fun e w' => e = .returned (.bool true) ∧ Below w.heap.size w w' := by
  have HN := Lib.hid hN
  have H1 := Lib.hid h1
  have H2 := Lib.hid h2
  clear h1 h2 hN
  go_enter Tryd.func19, Tryd.ntmps19
  go_wp2_with fail
  go_loopw [5] (fun iv wr => ∃ k : Nat, k ≤ N ∧ iv = .int .i64 (k : Int) ∧ Hid (Below w.heap.size w wr)) (fun iv _ => N - (intOf iv).toNat)
  case atStart => exact ⟨0, Nat.zero_le _, rfl, Lib.hid (Below.refl _ _)⟩
  case round =>
    obtain ⟨k, hk, rfl, HB⟩ := hrel
    by_cases hlt : k < N
    · have hkl : k < L.length := by rw [HN.out]; exact hlt
      obtain ⟨p, hp⟩ : ∃ p, L[k] = p := ⟨_, rfl⟩
      have hpk : L[k]? = some p := by rw [List.getElem?_eq_getElem hkl, hp]
      obtain ⟨a, ha, ca⟩ : ∃ a, A = some a ∧ wr.cell? (a.add k) = some (.string (baO p)) := by
        have h := H1.out.below HB.out
        rcases A with _ | a
        · have e1 := h.le
          have e2 := h.nil rfl
          omega
        · exact ⟨a, rfl, (h.at_ a rfl).2 k p hpk⟩
      obtain ⟨b, hb, cb⟩ : ∃ b, B = some b ∧ wr.cell? (b.add k) = some (.string (baO p)) := by
        have h := H2.out.below HB.out
        rcases B with _ | b
        · have e1 := h.le
          have e2 := h.nil rfl
          omega
        · exact ⟨b, rfl, (h.at_ b rfl).2 k p hpk⟩
      subst ha hb
      have i1 : (k : Int) < (N : Int) := by omega
      have i0 : (0 : Int) ≤ (k : Int) := by omega
      have e1 : ((baO p).toList == (baO p).toList) = true := by simp
      have e2 : ((baO p).toList != (baO p).toList) = false := by simp
      replace hp := Lib.hid hp
      replace hpk := Lib.hid hpk
      go_wp2_with fail
      go_quiet (fail)
      go_wp2_with fail
      go_roundw
      case rel => exact ⟨k + 1, by omega, by go_num, Lib.hid (below_drewN7 HB.out _)⟩
      case measure => simp [intOf]; omega
    · have i1 : ¬ ((k : Int) < (N : Int)) := by omega
      go_wp2_with fail
      go_ret
      exact ⟨rfl, HB.out⟩
end Go.Proofs.YtpmcdkalmdlahaaDoor
