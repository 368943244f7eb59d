/-
  The document's Find.
-/
import Derived.Test.YtllmffmmfpecaaaDoorMB8
import Derived.Deep.CutRange
namespace Go.Proofs.YtllmffmmfpecaaaDoor
open Go.RowKit

def set5 (w : World) (b : Nat) (u0 u1 u2 u3 u4 : Value) : World := (((((w.setCell ⟨b, 0, none⟩ u0).setCell ⟨b, 1, none⟩ u1).setCell ⟨b, 2, none⟩ u2).setCell ⟨b, 3, none⟩ u3).setCell ⟨b, 4, none⟩ u4)
theorem set5_same {w : World} {b : Nat} {v0 v1 v2 v3 v4 : Value} {T : TypeId} (h : w.heap[b]? = some (.cells #[v0, v1, v2, v3, v4] T (0, 0))) (u0 u1 u2 u3 u4 : Value) : (set5 w b u0 u1 u2 u3 u4).heap[b]? = some (.cells #[u0, u1, u2, u3, u4] T (0, 0)) := by
  unfold set5
  rw [_root_.Go.heap_setCell_same _ _ _ _ _ _ (_root_.Go.heap_setCell_same _ _ _ _ _ _ (_root_.Go.heap_setCell_same _ _ _ _ _ _ (_root_.Go.heap_setCell_same _ _ _ _ _ _ (_root_.Go.heap_setCell_same _ _ _ _ _ _ h))))]
  rfl
theorem set5_below {w W : World} {B b : Nat} (h : Below B w W) (hb : B ≤ b) (u0 u1 u2 u3 u4 : Value) : Below B w (set5 W b u0 u1 u2 u3 u4) := (((((h.setCell hb u0).setCell hb u1).setCell hb u2).setCell hb u3).setCell hb u4)
def set6 (w : World) (b : Nat) (u0 u1 u2 u3 u4 u5 : Value) : World := ((((((w.setCell ⟨b, 0, none⟩ u0).setCell ⟨b, 1, none⟩ u1).setCell ⟨b, 2, none⟩ u2).setCell ⟨b, 3, none⟩ u3).setCell ⟨b, 4, none⟩ u4).setCell ⟨b, 5, none⟩ u5)
theorem set6_same {w : World} {b : Nat} {v0 v1 v2 v3 v4 v5 : Value} {T : TypeId} (h : w.heap[b]? = some (.cells #[v0, v1, v2, v3, v4, v5] T (0, 0))) (u0 u1 u2 u3 u4 u5 : Value) : (set6 w b u0 u1 u2 u3 u4 u5).heap[b]? = some (.cells #[u0, u1, u2, u3, u4, u5] T (0, 0)) := by
  unfold set6
  rw [_root_.Go.heap_setCell_same _ _ _ _ _ _ (_root_.Go.heap_setCell_same _ _ _ _ _ _ (_root_.Go.heap_setCell_same _ _ _ _ _ _ (_root_.Go.heap_setCell_same _ _ _ _ _ _ (_root_.Go.heap_setCell_same _ _ _ _ _ _ (_root_.Go.heap_setCell_same _ _ _ _ _ _ h)))))]
  rfl
theorem set6_below {w W : World} {B b : Nat} (h : Below B w W) (hb : B ≤ b) (u0 u1 u2 u3 u4 u5 : Value) : Below B w (set6 W b u0 u1 u2 u3 u4 u5) := ((((((h.setCell hb u0).setCell hb u1).setCell hb u2).setCell hb u3).setCell hb u4).setCell hb u5)
theorem find_at {α : Type} {p : α → Bool} : ∀ {L : List α} {k : Nat} {a : α}, L[k]? = some a → p a = true → (∀ j < k, ∀ b, L[j]? = some b → p b = false) → L.find? p = some a
  | [], k, a, h, _, _ => by simp at h
  | b :: L, 0, a, h, hp, _ => by
    simp at h
    subst h
    rw [List.find?_cons, hp]
  | b :: L, k + 1, a, h, hp, hf => by
    rw [List.find?_cons, hf 0 (by omega) b rfl]
    exact find_at (by simpa using h) hp fun j hj c hc => hf (j + 1) (by omega) c (by simpa using hc)
theorem find_no {α : Type} {p : α → Bool} {L : List α} (hf : ∀ j < L.length, ∀ b, L[j]? = some b → p b = false) : L.find? p = none := by
  rw [List.find?_eq_none]
  intro x hx
  obtain ⟨j, hj, e⟩ := List.mem_iff_getElem.1 hx
  rw [hf j hj x (by rw [List.getElem?_eq_getElem hj, e])]
  exact Bool.false_ne_true
/-- The table of attributes lies at g. -/
def AttS (w : World) (K g : Nat) : Prop := g < K ∧ ∀ (i : Nat) (a : At), atts[i]? = some a →
  w.cell? ⟨g, i * 5, none⟩ = some (.string (baO a.name)) ∧ w.cell? ⟨g, i * 5 + 1, none⟩ = some (.string (baO a.alias)) ∧ w.cell? ⟨g, i * 5 + 2, none⟩ = some (.string (baO a.oid)) ∧
  w.cell? ⟨g, i * 5 + 3, none⟩ = some (.int .i64 (a.syn : Int)) ∧ w.cell? ⟨g, i * 5 + 4, none⟩ = some (.bool a.single)
theorem AttS.below {w w' : World} {K g : Nat} (h : AttS w K g) (hb : Below K w w') : AttS w' K g := by
  obtain ⟨h1, h3⟩ := h
  refine ⟨h1, fun i a ha => ?_⟩
  have hk : ∀ j, w'.cell? ⟨g, j, none⟩ = w.cell? ⟨g, j, none⟩ := fun j => hb.cell (p := ⟨g, j, none⟩) h1
  rw [hk, hk, hk, hk, hk]
  exact h3 i a ha
theorem flat_at : ∀ (L : List At) (i : Nat) (a : At), L[i]? = some a → (L.flatMap flatA)[i * 5]? = some (.string (baO a.name)) ∧ (L.flatMap flatA)[i * 5 + 1]? = some (.string (baO a.alias)) ∧ (L.flatMap flatA)[i * 5 + 2]? = some (.string (baO a.oid)) ∧ (L.flatMap flatA)[i * 5 + 3]? = some (.int .i64 (a.syn : Int)) ∧ (L.flatMap flatA)[i * 5 + 4]? = some (.bool a.single) := by
  intro L
  induction L with
  | nil => intro i a h; simp at h
  | cons b L ih =>
    intro i a h
    rw [List.flatMap_cons]
    rcases i with _ | i
    · simp at h
      subst h
      exact ⟨rfl, rfl, rfl, rfl, rfl⟩
    · have h' : L[i]? = some a := by simpa using h
      have hl : (flatA b).length = 5 := rfl
      have := ih i a h'
      refine ⟨?_, ?_, ?_, ?_, ?_⟩
      · rw [List.getElem?_append_right (by rw [hl]; omega), hl, show (i + 1) * 5 - 5 = i * 5 by omega]; exact this.1
      · rw [List.getElem?_append_right (by rw [hl]; omega), hl, show (i + 1) * 5 + 1 - 5 = i * 5 + 1 by omega]; exact this.2.1
      · rw [List.getElem?_append_right (by rw [hl]; omega), hl, show (i + 1) * 5 + 2 - 5 = i * 5 + 2 by omega]; exact this.2.2.1
      · rw [List.getElem?_append_right (by rw [hl]; omega), hl, show (i + 1) * 5 + 3 - 5 = i * 5 + 3 by omega]; exact this.2.2.2.1
      · rw [List.getElem?_append_right (by rw [hl]; omega), hl, show (i + 1) * 5 + 4 - 5 = i * 5 + 4 by omega]; exact this.2.2.2.2
theorem attS_new (w : World) (t : TypeId) : AttS (w.alloc (.cells cellsAt.toArray t)) (w.heap.size + 1) w.heap.size := by
  refine ⟨Nat.lt_succ_self _, fun i a ha => ?_⟩
  have hk : ∀ j v, cellsAt[j]? = some v → (w.alloc (.cells cellsAt.toArray t)).cell? ⟨w.heap.size, j, none⟩ = some v := fun j v h => by
    rw [cell_of_row _ _ _ _ _ _ (heap_alloc_new w _), List.getElem?_toArray, h]
  obtain ⟨h0, h1, h2, h3, h4⟩ := flat_at atts i a ha
  exact ⟨hk _ _ h0, hk _ _ h1, hk _ _ h2, hk _ _ h3, hk _ _ h4⟩
theorem att_len : ∀ a ∈ atts, a.name.length ≤ 60 ∧ a.alias.length ≤ 60 ∧ a.oid.length ≤ 60 := by decide +kernel
def valA (o : Option At) : Value := match o with
  | some a => .tuple #[.agg #[.string (baO a.name), .string (baO a.alias), .string (baO a.oid), .int .i64 (a.syn : Int), .bool a.single], .bool true]
  | none => .tuple #[.agg #[.string ⟨#[]⟩, .string ⟨#[]⟩, .string ⟨#[]⟩, .int .i64 0, .bool false], .bool false]
set_option maxRecDepth 8000 in
set_option maxHeartbeats 4000000 in
theorem refFind_any (s : ByteArray) (w : World) (hs : s.size ≤ 600) :
    Calls Tryd.prog 9 #[.string s] w fun e w' => e = .returned (valA (findA s.data.toList)) ∧ Below w.heap.size w w' := by
  have hlen : Hid (atts.length = 20) := Lib.hid rfl
  go_enter Tryd.func9, Tryd.ntmps9
  go_wp2_with fail
  refine (refAttributes_any _).mono ?_
  rintro _ w1 ⟨rfl, hw1⟩
  have HT0 : Hid (AttS w1 w1.heap.size (w.heap.size + 1)) := Lib.hid (by
    have := attS_new (w.alloc (.cells #[.string ⟨#[]⟩, .string ⟨#[]⟩, .string ⟨#[]⟩, .int .i64 0, .bool false] 26)) 26
    simp at this
    rw [hw1]
    simpa using this)
  have HB0 : Hid (Below w.heap.size w w1) := Lib.hid (by
    rw [hw1]
    exact ((Below.refl _ _).alloc (Nat.le_refl _) _).alloc (by simp) _)
  have HC0 : Hid (w1.heap[w.heap.size]? = some (.cells #[.string ⟨#[]⟩, .string ⟨#[]⟩, .string ⟨#[]⟩, .int .i64 0, .bool false] 26)) := Lib.hid (by
    rw [hw1]
    exact allocs_at [_, _] w 0)
  have hs1 : w.heap.size + 2 = w1.heap.size := by rw [hw1]; simp
  clear hw1
  go_wp2_with fail
  refine (refLower_any s _ hs).mono ?_
  rintro _ w2 ⟨x, rfl, hx, hb⟩
  obtain rfl := eq_baO hx
  clear hx
  have hs2 := hb.size
  replace HT0 := Lib.hid (HT0.out.below hb)
  replace HC0 := Lib.hid ((hb.block w.heap.size (by omega)).trans HC0.out)
  replace HB0 := Lib.hid (HB0.out.trans (hb.mono (by omega)))
  clear hb
  dsimp only []
  go_wp2_with fail
  go_loopw [6] (fun iv wr => ∃ k : Nat, k ≤ 20 ∧ iv = .int .i64 (k : Int) ∧ Hid (∀ j < k, ∀ a, atts[j]? = some a → atB (lowL s.data.toList) s.data.toList a = false) ∧ Hid (Below w2.heap.size w2 wr)) (fun iv _ => 20 - (intOf iv).toNat)
  case atStart => exact ⟨0, Nat.zero_le _, rfl, Lib.hid (fun j hj => absurd hj (Nat.not_lt_zero _)), Lib.hid (Below.refl _ _)⟩
  case round =>
    obtain ⟨k, hk, rfl, HF, HB⟩ := hrel
    by_cases hlt : k < 20
    · have i0 : (0 : Int) ≤ (k : Int) := by omega
      have i1 : (k : Int) < 20 := by omega
      obtain ⟨a, ha⟩ : ∃ a, atts[k]? = some a := ⟨atts[k]'(by rw [hlen.out]; exact hlt), List.getElem?_eq_getElem _⟩
      have HTr : AttS wr w1.heap.size (w.heap.size + 1) := HT0.out.below (HB.out.mono hs2)
      obtain ⟨c0, c1, c2, c3, c4⟩ := HTr.2 k a ha
      have hal := att_len a (List.mem_of_getElem? ha)
      have hsr := HB.out.size
      have z0 : (baO a.name).size ≤ 600 := by rw [baO_size]; omega
      have z1 : (baO a.alias).size ≤ 600 := by rw [baO_size]; omega
      obtain ⟨q, hq⟩ : ∃ q, atB (lowL s.data.toList) s.data.toList a = q := ⟨_, rfl⟩
      replace hq := Lib.hid hq
      go_upto_region 6 with fail
      go_cut [46] from 10 to 50 (fun c wx => c = .bool q ∧ Hid (Below w2.heap.size w2 wx))
      case first =>
        go_wp2_with fail
        refine (refLower_any _ _ z0).mono ?_
        rintro _ w3 ⟨x1, rfl, hx1, hb3⟩
        rw [baO_list] at hx1
        obtain rfl := eq_baO hx1
        clear hx1
        have hs3 := hb3.size
        have kc : ∀ j, w3.cell? ⟨w.heap.size + 1, j, none⟩ = wr.cell? ⟨w.heap.size + 1, j, none⟩ := fun j => hb3.cell (p := ⟨w.heap.size + 1, j, none⟩) (by show w.heap.size + 1 < _; omega)
        have d1 := (kc (k * 5 + 1)).trans c1
        have d2 := (kc (k * 5 + 2)).trans c2
        have HL3 := Lib.hid (HB.out.trans (hb3.mono hsr))
        clear c0 c1 c2 c3 c4 kc HTr
        have done : ∀ v : Bool, atB (lowL s.data.toList) s.data.toList a = v → Value.bool v = Value.bool q := fun v h => by rw [← h, hq.out]
        replace done := Lib.hid done
        by_cases e1 : lowL s.data.toList = lowL a.name
        · have e1' : (baO (lowL s.data.toList)).toList = (baO (lowL a.name)).toList := by rw [e1]
          replace e1 := Lib.hid e1
          dsimp only []
          go_wp2_with fail
          go_meet
          exact ⟨done.out true (by simp [atB, e1.out]), HL3⟩
        · have e1' := baO_ne e1
          replace e1 := Lib.hid e1
          dsimp only []
          go_wp2_with fail
          refine (refLower_any _ _ z1).mono ?_
          rintro _ w4 ⟨x2, rfl, hx2, hb4⟩
          rw [baO_list] at hx2
          obtain rfl := eq_baO hx2
          clear hx2
          have hs4 := hb4.size
          have kc : ∀ j, w4.cell? ⟨w.heap.size + 1, j, none⟩ = w3.cell? ⟨w.heap.size + 1, j, none⟩ := fun j => hb4.cell (p := ⟨w.heap.size + 1, j, none⟩) (by show w.heap.size + 1 < _; omega)
          have g2 := (kc (k * 5 + 2)).trans d2
          have HL4 := Lib.hid (HL3.out.trans (hb4.mono (by omega)))
          clear d1 d2 kc hb4 hb3 HL3
          by_cases e2 : lowL s.data.toList = lowL a.alias
          · have e2' : (baO (lowL s.data.toList)).toList = (baO (lowL a.alias)).toList := by rw [e2]
            replace e2 := Lib.hid e2
            by_cases e3 : lowL s.data.toList = []
            · have e3' : (baO (lowL s.data.toList)).toList = [] := by rw [baO_toList, e3]
              have e3i : (baO (lowL a.alias)).toList.isEmpty = true := by rw [← e2', e3']; rfl
              have e3j : (baO (lowL s.data.toList)).toList.isEmpty = true := by rw [e3']; rfl
              have e3k : (baO (lowL a.alias)).toList = [] := by rw [← e2', e3']
              replace e3 := Lib.hid e3
              by_cases e4 : s.data.toList = a.oid
              · have e4b : (s.toList == (baO a.oid).toList) = true := beq_iff_eq.2 (by rw [baO_toList, ByteArray.toList_eq, e4])
                replace e4 := Lib.hid e4
                dsimp only []
                go_wp2_with fail
                go_meet
                exact ⟨done.out true (by simp [atB, e4.out]), HL4⟩
              · have e4' : ¬ s.toList = (baO a.oid).toList := by rw [baO_toList, ByteArray.toList_eq]; exact e4
                have e4b : (s.toList == (baO a.oid).toList) = false := beq_eq_false_iff_ne.2 e4'
                replace e4 := Lib.hid e4
                dsimp only []
                go_wp2_with fail
                go_meet
                exact ⟨done.out false (by
                  have t1 : (lowL s.data.toList == lowL a.name) = false := beq_eq_false_iff_ne.2 e1.out
                  have t4 : (s.data.toList == a.oid) = false := beq_eq_false_iff_ne.2 e4.out
                  unfold atB
                  rw [t1, t4]
                  have t3 : (lowL s.data.toList == []) = true := beq_iff_eq.2 e3.out
                  rw [t3]
                  simp), HL4⟩
            · have e3' : ¬ (baO (lowL s.data.toList)).toList = [] := by rw [baO_toList]; exact e3
              have e3i : (baO (lowL a.alias)).toList.isEmpty = false := by rw [← e2']; simpa using e3'
              have e3j : (baO (lowL s.data.toList)).toList.isEmpty = false := by simpa using e3'
              have e3k : ¬ (baO (lowL a.alias)).toList = [] := by rw [← e2']; exact e3'
              have t2 : (lowL s.data.toList == []) = false := beq_eq_false_iff_ne.2 e3
              replace e3 := Lib.hid e3
              replace t2 := Lib.hid t2
              dsimp only []
              go_wp2_with fail
              go_meet
              exact ⟨done.out true (by
                have t1 : (lowL s.data.toList == lowL a.alias) = true := beq_iff_eq.2 e2.out
                unfold atB
                rw [t1, t2.out]
                simp), HL4⟩
          · have e2' := baO_ne e2
            replace e2 := Lib.hid e2
            by_cases e4 : s.data.toList = a.oid
            · have e4b : (s.toList == (baO a.oid).toList) = true := beq_iff_eq.2 (by rw [baO_toList, ByteArray.toList_eq, e4])
              replace e4 := Lib.hid e4
              dsimp only []
              go_wp2_with fail
              go_meet
              exact ⟨done.out true (by simp [atB, e4.out]), HL4⟩
            · have e4' : ¬ s.toList = (baO a.oid).toList := by rw [baO_toList, ByteArray.toList_eq]; exact e4
              have e4b : (s.toList == (baO a.oid).toList) = false := beq_eq_false_iff_ne.2 e4'
              replace e4 := Lib.hid e4
              dsimp only []
              go_wp2_with fail
              go_meet
              exact ⟨done.out false (by
                have t1 : (lowL s.data.toList == lowL a.name) = false := beq_eq_false_iff_ne.2 e1.out
                have t4 : (s.data.toList == a.oid) = false := beq_eq_false_iff_ne.2 e4.out
                unfold atB
                rw [t1, t4]
                have t2 : (lowL s.data.toList == lowL a.alias) = false := beq_eq_false_iff_ne.2 e2.out
                rw [t2]
                rfl), HL4⟩
      case rest =>
        obtain ⟨rfl, HL4⟩ := hcut
        have hs4 := HL4.out.size
        have HTc : AttS wc w1.heap.size (w.heap.size + 1) := HT0.out.below (HL4.out.mono hs2)
        clear c0 c1 c2 c3 c4 HTr
        obtain ⟨c0, c1, c2, c3, c4⟩ := HTc.2 k a ha
        have hc4 := (HL4.out.block w.heap.size (by omega)).trans HC0.out
        have HB4 := Lib.hid (HB0.out.trans (HL4.out.mono (by omega)))
        rcases q with _ | _
        rotate_left
        · have e := hq.out
          have hfa := Lib.hid (show findA s.data.toList = some a from find_at ha e HF.out)
          have r0 : wc.cell? ⟨w.heap.size, 0, none⟩ = some (.string ⟨#[]⟩) := cell_of_row _ _ _ _ _ _ hc4
          have f0 : wc.frozen? ⟨w.heap.size, 0, none⟩ = false := frozen_of_row _ _ _ _ _ hc4
          have r1 : wc.cell? ⟨w.heap.size, 1, none⟩ = some (.string ⟨#[]⟩) := cell_of_row _ _ _ _ _ _ hc4
          have f1 : wc.frozen? ⟨w.heap.size, 1, none⟩ = false := frozen_of_row _ _ _ _ _ hc4
          have r2 : wc.cell? ⟨w.heap.size, 2, none⟩ = some (.string ⟨#[]⟩) := cell_of_row _ _ _ _ _ _ hc4
          have f2 : wc.frozen? ⟨w.heap.size, 2, none⟩ = false := frozen_of_row _ _ _ _ _ hc4
          have r3 : wc.cell? ⟨w.heap.size, 3, none⟩ = some (.int .i64 0) := cell_of_row _ _ _ _ _ _ hc4
          have f3 : wc.frozen? ⟨w.heap.size, 3, none⟩ = false := frozen_of_row _ _ _ _ _ hc4
          have r4 : wc.cell? ⟨w.heap.size, 4, none⟩ = some (.bool false) := cell_of_row _ _ _ _ _ _ hc4
          have f4 : wc.frozen? ⟨w.heap.size, 4, none⟩ = false := frozen_of_row _ _ _ _ _ hc4
          have HC := Lib.hid (set5_same hc4 (.string (baO a.name)) (.string (baO a.alias)) (.string (baO a.oid)) (.int .i64 (a.syn : Int)) (.bool a.single))
          have HE := Lib.hid (set5_below HB4.out (Nat.le_refl _) (.string (baO a.name)) (.string (baO a.alias)) (.string (baO a.oid)) (.int .i64 (a.syn : Int)) (.bool a.single))
          replace hc4 := Lib.hid hc4
          try dsimp only []
          go_wp2_with fail
          have HX : set5 wc w.heap.size (.string (baO a.name)) (.string (baO a.alias)) (.string (baO a.oid)) (.int .i64 (a.syn : Int)) (.bool a.single) = (((((wc.setCell ⟨w.heap.size, 0, none⟩ (.string (baO a.name))).setCell ⟨w.heap.size, 1, none⟩ (.string (baO a.alias))).setCell ⟨w.heap.size, 2, none⟩ (.string (baO a.oid))).setCell ⟨w.heap.size, 3, none⟩ (.int .i64 (a.syn : Int))).setCell ⟨w.heap.size, 4, none⟩ (.bool a.single)) := rfl
          rw [← HX]
          obtain ⟨W5, hW5⟩ : ∃ W5, W5 = set5 wc w.heap.size (.string (baO a.name)) (.string (baO a.alias)) (.string (baO a.oid)) (.int .i64 (a.syn : Int)) (.bool a.single) := ⟨_, rfl⟩
          rw [← hW5] at HE HC ⊢
          clear HX hW5 r0 f0 r1 f1 r2 f2 r3 f3 r4 f4
          have q0 : W5.cell? ⟨w.heap.size, 0, none⟩ = some (.string (baO a.name)) := cell_of_row _ _ _ _ _ _ HC.out
          have q1 : W5.cell? ⟨w.heap.size, 1, none⟩ = some (.string (baO a.alias)) := cell_of_row _ _ _ _ _ _ HC.out
          have q2 : W5.cell? ⟨w.heap.size, 2, none⟩ = some (.string (baO a.oid)) := cell_of_row _ _ _ _ _ _ HC.out
          have q3 : W5.cell? ⟨w.heap.size, 3, none⟩ = some (.int .i64 (a.syn : Int)) := cell_of_row _ _ _ _ _ _ HC.out
          have q4 : W5.cell? ⟨w.heap.size, 4, none⟩ = some (.bool a.single) := cell_of_row _ _ _ _ _ _ HC.out
          exact bodyPost_ret (v := valA (some a)) (by simp [results, valA, Tryd.results9, go_sem, q0, q1, q2, q3, q4]) rfl ⟨by rw [hfa.out], HE.out⟩
        · have e0 := hq.out
          have hno := Lib.hid e0
          replace hc4 := Lib.hid hc4
          try dsimp only []
          go_wp2_with fail
          go_roundw
          case rel =>
            refine ⟨k + 1, by omega, by go_num, Lib.hid (fun j hj b hb => ?_), HL4⟩
            by_cases hjk : j < k
            · exact HF.out j hjk b hb
            · obtain rfl : j = k := by omega
              rw [ha] at hb
              injection hb with hb
              rw [← hb]
              exact hno.out
          case measure => simp [intOf]; omega
    · obtain rfl : k = 20 := by omega
      have hfa := Lib.hid (show findA s.data.toList = none from find_no (by rw [hlen.out]; exact HF.out))
      have i1 : ¬ ((20 : Nat) : Int) < 20 := by omega
      have hc3 := (HB.out.block w.heap.size (by omega)).trans HC0.out
      have HB3 := Lib.hid (HB0.out.trans (HB.out.mono (by omega)))
      have r0 : wr.cell? ⟨w.heap.size, 0, none⟩ = some (.string ⟨#[]⟩) := cell_of_row _ _ _ _ _ _ hc3
      have f0 : wr.frozen? ⟨w.heap.size, 0, none⟩ = false := frozen_of_row _ _ _ _ _ hc3
      have r1 : wr.cell? ⟨w.heap.size, 1, none⟩ = some (.string ⟨#[]⟩) := cell_of_row _ _ _ _ _ _ hc3
      have f1 : wr.frozen? ⟨w.heap.size, 1, none⟩ = false := frozen_of_row _ _ _ _ _ hc3
      have r2 : wr.cell? ⟨w.heap.size, 2, none⟩ = some (.string ⟨#[]⟩) := cell_of_row _ _ _ _ _ _ hc3
      have f2 : wr.frozen? ⟨w.heap.size, 2, none⟩ = false := frozen_of_row _ _ _ _ _ hc3
      have r3 : wr.cell? ⟨w.heap.size, 3, none⟩ = some (.int .i64 0) := cell_of_row _ _ _ _ _ _ hc3
      have f3 : wr.frozen? ⟨w.heap.size, 3, none⟩ = false := frozen_of_row _ _ _ _ _ hc3
      have r4 : wr.cell? ⟨w.heap.size, 4, none⟩ = some (.bool false) := cell_of_row _ _ _ _ _ _ hc3
      have f4 : wr.frozen? ⟨w.heap.size, 4, none⟩ = false := frozen_of_row _ _ _ _ _ hc3
      have HC := Lib.hid (set5_same hc3 (.string ⟨#[]⟩) (.string ⟨#[]⟩) (.string ⟨#[]⟩) (.int .i64 0) (.bool false))
      have HE := Lib.hid (set5_below HB3.out (Nat.le_refl _) (.string ⟨#[]⟩) (.string ⟨#[]⟩) (.string ⟨#[]⟩) (.int .i64 0) (.bool false))
      replace hc3 := Lib.hid hc3
      try dsimp only []
      go_wp2_with fail
      have HX : set5 wr w.heap.size (.string ⟨#[]⟩) (.string ⟨#[]⟩) (.string ⟨#[]⟩) (.int .i64 0) (.bool false) = (((((wr.setCell ⟨w.heap.size, 0, none⟩ (.string ⟨#[]⟩)).setCell ⟨w.heap.size, 1, none⟩ (.string ⟨#[]⟩)).setCell ⟨w.heap.size, 2, none⟩ (.string ⟨#[]⟩)).setCell ⟨w.heap.size, 3, none⟩ (.int .i64 0)).setCell ⟨w.heap.size, 4, none⟩ (.bool false)) := rfl
      rw [← HX]
      obtain ⟨W5, hW5⟩ : ∃ W5, W5 = set5 wr w.heap.size (.string ⟨#[]⟩) (.string ⟨#[]⟩) (.string ⟨#[]⟩) (.int .i64 0) (.bool false) := ⟨_, rfl⟩
      rw [← hW5] at HE HC ⊢
      clear HX hW5 r0 f0 r1 f1 r2 f2 r3 f3 r4 f4
      have q0 : W5.cell? ⟨w.heap.size, 0, none⟩ = some (.string ⟨#[]⟩) := cell_of_row _ _ _ _ _ _ HC.out
      have q1 : W5.cell? ⟨w.heap.size, 1, none⟩ = some (.string ⟨#[]⟩) := cell_of_row _ _ _ _ _ _ HC.out
      have q2 : W5.cell? ⟨w.heap.size, 2, none⟩ = some (.string ⟨#[]⟩) := cell_of_row _ _ _ _ _ _ HC.out
      have q3 : W5.cell? ⟨w.heap.size, 3, none⟩ = some (.int .i64 0) := cell_of_row _ _ _ _ _ _ HC.out
      have q4 : W5.cell? ⟨w.heap.size, 4, none⟩ = some (.bool false) := cell_of_row _ _ _ _ _ _ HC.out
      exact bodyPost_ret (v := valA none) (by simp [results, valA, Tryd.results9, go_sem, q0, q1, q2, q3, q4]) rfl ⟨by rw [hfa.out], HE.out⟩
end Go.Proofs.YtllmffmmfpecaaaDoor
