/-
  The program's order of two parsed numbers.
-/
import Derived.Test.YthdiaghkpolonaaDoorWParse
import Derived.Test.YthdiaghkpolonaaDoorRefCmp
namespace Go.Proofs.YthdiaghkpolonaaDoor
open Go.RowKit Go.Lib

/-- Whether x is before y. -/
def lessB (m n : Bool) (p q : List UInt8) : Bool :=
  if p = [] then true else if q = [] then false
  else if m ≠ n then m
  else if m = true then (decide (q.length < p.length) || (decide (q.length = p.length) && Op.bytesLess q p))
  else (decide (p.length < q.length) || (decide (p.length = q.length) && Op.bytesLess p q))
theorem psCmp_less (x y : Bool × List UInt8) : psCmp x y = if x = y then 0 else if lessB x.1 y.1 x.2 y.2 = true then -1 else 1 := by
  unfold psCmp lessB
  by_cases h1 : x = y
  · rw [if_pos h1, if_pos h1]
  rw [if_neg h1, if_neg h1]
  by_cases h2 : x.2 = []
  · simp [h2]
  by_cases h3 : y.2 = []
  · simp [h2, h3]
  rcases x with ⟨m, p⟩
  rcases y with ⟨n, q⟩
  have h2' : p ≠ [] := h2
  have h3' : q ≠ [] := h3
  cases m <;> cases n <;> simp [h2', h3']

set_option maxRecDepth 4000 in
set_option maxHeartbeats 1600000 in
theorem less_any (m n : Bool) (p q : ByteArray) (w : World) :
    Calls Tryd.prog 23 #[.agg #[.bool m, .string p], .agg #[.bool n, .string q]] w fun e w' => e = .returned (.bool (lessB m n p.data.toList q.data.toList)) ∧ Below w.heap.size w w' := by
  obtain ⟨X, HX⟩ : ∃ X, lessB m n p.data.toList q.data.toList = X := ⟨_, rfl⟩
  rw [HX]
  unfold lessB at HX
  by_cases h2 : p.data.toList = []
  · rw [if_pos h2] at HX
    have hb2 : p.toList.isEmpty = true := by rw [ByteArray.toList_eq, h2]; rfl
    clear h2
    subst HX
    go_enter Tryd.func23, Tryd.ntmps23
    go_wp2_with fail
    go_ret
    exact ⟨rfl, by go_grown⟩
  rw [if_neg h2] at HX
  have hb2 : p.toList.isEmpty = false := by rw [ByteArray.toList_eq]; simpa using h2
  clear h2
  by_cases h3 : q.data.toList = []
  · rw [if_pos h3] at HX
    have hb3 : q.toList.isEmpty = true := by rw [ByteArray.toList_eq, h3]; rfl
    clear h3
    subst HX
    go_enter Tryd.func23, Tryd.ntmps23
    go_wp2_with fail
    go_ret
    exact ⟨rfl, by go_grown⟩
  rw [if_neg h3] at HX
  have hb3 : q.toList.isEmpty = false := by rw [ByteArray.toList_eq]; simpa using h3
  clear h3
  obtain ⟨z, hz⟩ : ∃ z, Op.bytesLess p.toList q.toList = z := ⟨_, rfl⟩
  obtain ⟨y, hy⟩ : ∃ y, Op.bytesLess q.toList p.toList = y := ⟨_, rfl⟩
  simp only [size_list] at HX
  simp only [← ByteArray.toList_eq, hz, hy] at HX
  have h4 : p.size < q.size ∨ p.size = q.size ∨ q.size < p.size := by omega
  cases m <;> cases n
  · rcases h4 with h4 | h4 | h4
    · have h5 : ((p.size : Int) != (q.size : Int)) = true := by rw [bne_iff_ne]; omega
      have h6 : decide (p.size < q.size) = true := decide_eq_true h4
      simp [h4] at HX
      subst HX
      go_enter Tryd.func23, Tryd.ntmps23
      go_wp2_with fail
      go_ret
      exact ⟨rfl, by go_grown⟩
    · have h5 : ((p.size : Int) != (q.size : Int)) = false := by simp [h4]
      simp [h4] at HX
      subst HX
      clear h4
      cases z
      all_goals
        go_enter Tryd.func23, Tryd.ntmps23
        go_wp2_with fail
        go_ret
        exact ⟨rfl, by go_grown⟩
    · have h5 : ((p.size : Int) != (q.size : Int)) = true := by rw [bne_iff_ne]; omega
      have h6 : decide (p.size < q.size) = false := decide_eq_false (by omega)
      have h7 : ¬ p.size < q.size ∧ ¬ p.size = q.size := by omega
      simp [h7] at HX
      subst HX
      go_enter Tryd.func23, Tryd.ntmps23
      go_wp2_with fail
      go_ret
      exact ⟨rfl, by go_grown⟩
  · simp at HX
    subst HX
    go_enter Tryd.func23, Tryd.ntmps23
    go_wp2_with fail
    go_ret
    exact ⟨rfl, by go_grown⟩
  · simp at HX
    subst HX
    go_enter Tryd.func23, Tryd.ntmps23
    go_wp2_with fail
    go_ret
    exact ⟨rfl, by go_grown⟩
  · rcases h4 with h4 | h4 | h4
    · have h5 : ((q.size : Int) != (p.size : Int)) = true := by rw [bne_iff_ne]; omega
      have h6 : decide (q.size < p.size) = false := decide_eq_false (by omega)
      have h7 : ¬ q.size < p.size ∧ ¬ q.size = p.size := by omega
      simp [h7] at HX
      subst HX
      go_enter Tryd.func23, Tryd.ntmps23
      go_wp2_with fail
      go_ret
      exact ⟨rfl, by go_grown⟩
    · have h5 : ((q.size : Int) != (p.size : Int)) = false := by simp [h4]
      simp [h4] at HX
      subst HX
      clear h4
      cases y
      all_goals
        go_enter Tryd.func23, Tryd.ntmps23
        go_wp2_with fail
        go_ret
        exact ⟨rfl, by go_grown⟩
    · have h5 : ((q.size : Int) != (p.size : Int)) = true := by rw [bne_iff_ne]; omega
      have h6 : decide (q.size < p.size) = true := decide_eq_true h4
      simp [h4] at HX
      subst HX
      go_enter Tryd.func23, Tryd.ntmps23
      go_wp2_with fail
      go_ret
      exact ⟨rfl, by go_grown⟩
end Go.Proofs.YthdiaghkpolonaaDoor
