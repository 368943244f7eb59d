/-
  The program's Attributes: a copy of its table.
-/
import Derived.Test.YtllmffmmfpecaaaDoorTabA8
namespace Go.Proofs.YtllmffmmfpecaaaDoor
open Go.RowKit

theorem info_att : (Tryd.prog.info? 23).map (fun i => (i.zero, i.size, i.bytes)) = some (some (.agg #[.string { data := #[] }, .string { data := #[] }, .string { data := #[] }, .int .i64 0, .bool false]), 5, 64) := by kernel_rfl
theorem flatA_one : ∀ u ∈ cellsAt, u.oneCell' = true := by
  intro u hu
  unfold cellsAt at hu
  obtain ⟨a, _, h⟩ := List.mem_flatMap.1 hu
  unfold flatA at h
  simp only [List.mem_cons, List.not_mem_nil, or_false] at h
  rcases h with rfl | rfl | rfl | rfl | rfl <;> rfl
theorem cellsAt_len : cellsAt.length = 100 := by decide +kernel
theorem flat_get : ∀ (L : List At) (j : Nat) (u : Value), (L.flatMap flatA)[j]? = some u → ∃ a, L[j / 5]? = some a ∧ (flatA a)[j % 5]? = some u := by
  intro L
  induction L with
  | nil => intro j u h; simp at h
  | cons b L ih =>
    intro j u h
    rw [List.flatMap_cons] at h
    have hl : (flatA b).length = 5 := rfl
    by_cases hj : j < 5
    · rw [List.getElem?_append_left (by omega)] at h
      exact ⟨b, by rw [Nat.div_eq_of_lt hj]; rfl, by rw [Nat.mod_eq_of_lt hj]; exact h⟩
    · rw [List.getElem?_append_right (by omega), hl] at h
      obtain ⟨a, h1, h2⟩ := ih _ _ h
      refine ⟨a, ?_, ?_⟩
      · rw [show j / 5 = (j - 5) / 5 + 1 by omega]
        exact h1
      · rw [show j % 5 = (j - 5) % 5 by omega]
        exact h2
theorem AttO.cells {w : World} {g o : Nat} (h : AttO w g o) (j : Nat) (u : Value) (hj : cellsAt[j]? = some u) : w.cell? ((⟨g, o, none⟩ : Addr).add j) = some u := by
  obtain ⟨a, h1, h2⟩ := flat_get atts j u hj
  obtain ⟨c0, c1, c2, c3, c4⟩ := h _ a h1
  rw [Addr.add_lit]
  have hm : j % 5 < 5 := Nat.mod_lt _ (by omega)
  have hj5 : j = j / 5 * 5 + j % 5 := by omega
  generalize j % 5 = r at h2 hm hj5
  rw [hj5]
  match r, hm, h2 with
  | 0, _, h2 => injection h2 with h2; rw [← h2]; exact c0
  | 1, _, h2 => injection h2 with h2; rw [← h2]; exact c1
  | 2, _, h2 => injection h2 with h2; rw [← h2]; exact c2
  | 3, _, h2 => injection h2 with h2; rw [← h2]; exact c3
  | 4, _, h2 => injection h2 with h2; rw [← h2]; exact c4
def CloneS (w : World) (e : Ending) (w' : World) : Prop := ∃ g cp : Nat, e = .returned (.slice (some ⟨g, 0, none⟩) 20 cp) ∧ AttS w' w'.heap.size g ∧ Below w.heap.size w w'
theorem own_att {w : World} {base : Nat} {v : Value} (h : w.ownsRow base 23 5 v 20 cellsAt) : ∃ g cp : Nat, v = .slice (some ⟨g, 0, none⟩) 20 cp ∧ AttS w w.heap.size g := by
  obtain ⟨_, ⟨_, h0⟩ | ⟨g, cap, cur, hv, _, hg, hn, _, hs, hx⟩⟩ := h
  · cases h0
  · refine ⟨g, cap, hv, (Array.getElem?_eq_some_iff.1 hg).1, fun i a ha => ?_⟩
    obtain ⟨f0, f1, f2, f3, f4⟩ := flat_at atts i a ha
    have hi : i < 20 := (List.getElem?_eq_some_iff.1 ha).1
    have hk : ∀ j u, j < 100 → cellsAt[j]? = some u → w.cell? ⟨g, j, none⟩ = some u := fun j u hj h => by
      rw [cell_of_row _ _ _ _ _ _ hg, ← Array.getElem?_toList]
      rw [← hx, List.getElem?_take, if_pos (by omega)] at h
      exact h
    exact ⟨hk _ _ (by omega) f0, hk _ _ (by omega) f1, hk _ _ (by omega) f2, hk _ _ (by omega) f3, hk _ _ (by omega) f4⟩
set_option maxRecDepth 8000 in
set_option maxHeartbeats 1600000 in
theorem cloneA_any (g o : Nat) (w : World) (hg : g < w.heap.size) (h : AttO w g o) :
    Calls Tryd.prog 28 #[.slice (some ⟨g, o, none⟩) 20 20] w fun e w' => CloneS w e w' := by
  have HO := Lib.hid (h.below hg ((Below.refl w.heap.size w).alloc (Nat.le_refl _) (.cells #[] 23)))
  obtain ⟨i0, hi, hz0, hz1, hz2⟩ := info_parts info_att
  replace hi := Lib.hid hi
  replace hz0 := Lib.hid hz0
  replace hz1 := Lib.hid hz1
  replace hz2 := Lib.hid hz2
  have hW : Hid (Below w.heap.size w (w.alloc (.cells #[] 23))) := Lib.hid ((Below.refl _ _).alloc (Nat.le_refl _) _)
  replace h := Lib.hid h
  have hnil : Sem.run Tryd.prog (binOp .eql 37 (.slice (some ⟨g, o, none⟩) 20 20) (.slice none 0 0)) w = .ok (.bool false) w := by kernel_rfl
  go_enter Tryd.func28, Tryd.ntmps28
  go_wp2_with (at_builtin; refine wpList_append_own _ rfl (.tmp 5) (.tmp 6) 37 rfl w.heap.size 23 i0 _ 5 64 Tryd.underlying37 hi.out hz0.out hz1.out hz2.out rfl (by decide) (.slice (some ⟨w.heap.size, 0, none⟩) 0 0) 0 [] rfl ⟨rfl, .inr ⟨w.heap.size, 0, #[], rfl, Nat.le_refl _, heap_alloc_new w _, Nat.le_refl _, by simp [maxLen], rfl, rfl⟩⟩ _ 20 20 cellsAt rfl cellsAt_len (fun j u hj => HO.out.cells j u hj) flatA_one (by simp [maxLen]) (by omega) (by simp) ?_; intro v' w' hown hgr _)
  obtain ⟨g1, cp, rfl, hA⟩ := own_att hown
  have HA := Lib.hid hA
  have HB := Lib.hid (hW.out.trans ((Below.refl w.heap.size _).grown hgr (by simp) (fun k hk => by have : w.heap.size = k := (by simpa [Value.ownBlock] using hk); omega)))
  clear hA hown hgr
  go_wp2_with fail
  go_ret
  exact ⟨g1, cp, rfl, HA.out, HB.out⟩
theorem attributes_any (g o : Nat) (w : World) (h : TabA w g o) : Calls Tryd.prog 12 #[] w fun e w' => CloneS w e w' := by
  have t0 := h.2.2.1
  have CC := Lib.hid (cloneA_any g o w h.2.1 h.2.2.2)
  replace h := Lib.hid h
  go_enter Tryd.func12, Tryd.ntmps12
  go_wp2_with fail
  refine CC.out.mono ?_
  rintro _ w1 ⟨g1, cp, rfl, hA, hb⟩
  replace hA := Lib.hid hA
  replace hb := Lib.hid hb
  dsimp only []
  go_wp2_with fail
  go_ret
  exact ⟨g1, cp, rfl, hA.out, hb.out⟩
end Go.Proofs.YtllmffmmfpecaaaDoor
