/-
  The program's Classes.
-/
import Derived.Test.YtllmffmmfpecaaaDoorPCla8
import Derived.Test.YtllmffmmfpecaaaDoorMC8
namespace Go.Proofs.YtllmffmmfpecaaaDoor
open Go.RowKit

def cellK (c : Cl) (g1 g2 : Nat) : List Value := [.string (baO c.name), .string (baO c.oid), .string (baO c.super), .int .i64 (c.kind : Int), .slice (some ⟨g1, 0, none⟩) c.must.length c.must.length, .slice (some ⟨g2, 0, none⟩) c.may.length c.may.length]
/-- The first k classes lie in a row of the call's own, and their lists in blocks of their own. -/
def ClI (w : World) (base k : Nat) (v : Value) : Prop := ∃ xs, w.ownsRow base 31 6 v k xs ∧ ∀ i c, i < k → clss[i]? = some c → ∃ g1 g2 : Nat,
  v.ownBlock ≠ some g1 ∧ v.ownBlock ≠ some g2 ∧ w.heap[g1]? = some (rowO c.must) ∧ w.heap[g2]? = some (rowO c.may) ∧ ∀ j u, (cellK c g1 g2)[j]? = some u → xs[i * 6 + j]? = some u
theorem ClI.nil (w : World) (base : Nat) : ClI w base 0 (.slice none 0 0) := ⟨[], ⟨rfl, .inl ⟨rfl, rfl⟩⟩, fun _ _ hi => absurd hi (Nat.not_lt_zero _)⟩
theorem own_below {w w' : World} {base n size : Nat} {T : TypeId} {v : Value} {xs : List Value} (h : w.ownsRow base T size v n xs) (hb : Below w.heap.size w w') : w'.ownsRow base T size v n xs := by
  obtain ⟨h1, h0 | ⟨g, cap, cur, hv, hbs, hg, hn, hm, hs, hx⟩⟩ := h
  · exact ⟨h1, .inl h0⟩
  · refine ⟨h1, .inr ⟨g, cap, cur, hv, hbs, ?_, hn, hm, hs, hx⟩⟩
    rw [hb.block g (Array.getElem?_eq_some_iff.1 hg).1]
    exact hg
theorem own_lt {w : World} {base n size : Nat} {T : TypeId} {v : Value} {xs : List Value} (h : w.ownsRow base T size v n xs) : ∀ g, v.ownBlock = some g → g < w.heap.size := fun g hg => (World.ownsRow.lt h g hg).2
/-- One class more. -/
theorem ClI.step {w W w' : World} {base k g1 g2 : Nat} {v v' : Value} {c : Cl} {xs : List Value} (hb : Below w.heap.size w W)
    (hp : ∀ i c, i < k → clss[i]? = some c → ∃ g1 g2 : Nat, v.ownBlock ≠ some g1 ∧ v.ownBlock ≠ some g2 ∧ w.heap[g1]? = some (rowO c.must) ∧ w.heap[g2]? = some (rowO c.may) ∧ ∀ j u, (cellK c g1 g2)[j]? = some u → xs[i * 6 + j]? = some u)
    (hl : ∀ g, v.ownBlock = some g → g < w.heap.size) (hx : xs.length = k * 6)
    (hc : clss[k]? = some c) (h1 : w.heap.size ≤ g1) (h2 : w.heap.size ≤ g2) (s1 : W.heap[g1]? = some (rowO c.must)) (s2 : W.heap[g2]? = some (rowO c.may))
    (ho : w'.ownsRow base 31 6 v' (k + 1) (xs ++ cellK c g1 g2)) (hg : W.grownBy w' v.ownBlock) (hat : v'.ownBlock = v.ownBlock ∨ v'.ownBlock = some W.heap.size) : ClI w' base (k + 1) v' := by
  have far : ∀ g, g < W.heap.size → v.ownBlock ≠ some g → v'.ownBlock ≠ some g := fun g hg hn e => by
    rcases hat with h | h
    · exact hn (h.symm.trans e)
    · rw [h] at e
      injection e with e
      omega
  have keep : ∀ (g : Nat) (o : Obj), W.heap[g]? = some o → v.ownBlock ≠ some g → w'.heap[g]? = some o := fun g o ho hn => (hg.block g (Array.getElem?_eq_some_iff.1 ho).1 (Ne.symm hn)).trans ho
  refine ⟨_, ho, fun i d hi hd => ?_⟩
  by_cases hik : i < k
  · obtain ⟨a1, a2, n1, n2, t1, t2, hcell⟩ := hp i d hik hd
    have T1 := (hb.block a1 (Array.getElem?_eq_some_iff.1 t1).1).trans t1
    have T2 := (hb.block a2 (Array.getElem?_eq_some_iff.1 t2).1).trans t2
    refine ⟨a1, a2, far a1 (Array.getElem?_eq_some_iff.1 T1).1 n1, far a2 (Array.getElem?_eq_some_iff.1 T2).1 n2, keep a1 _ T1 n1, keep a2 _ T2 n2, fun j u hu => ?_⟩
    have hj : j < 6 := (List.getElem?_eq_some_iff.1 hu).1
    rw [List.getElem?_append_left (by rw [hx]; omega)]
    exact hcell j u hu
  · obtain rfl : i = k := by omega
    obtain rfl : c = d := Option.some.inj (hc.symm.trans hd)
    have n1 : v.ownBlock ≠ some g1 := fun e => by have := hl g1 e; omega
    have n2 : v.ownBlock ≠ some g2 := fun e => by have := hl g2 e; omega
    refine ⟨g1, g2, far g1 (Array.getElem?_eq_some_iff.1 s1).1 n1, far g2 (Array.getElem?_eq_some_iff.1 s2).1 n2, keep g1 _ s1 n1, keep g2 _ s2 n2, fun j u hu => ?_⟩
    rw [List.getElem?_append_right (by rw [hx]; omega), hx, Nat.add_sub_cancel_left]
    exact hu
theorem ClI.done {w : World} {base n c : Nat} {A : Option Addr} (h : ClI w base 10 (.slice A n c)) : ∃ g, A = some ⟨g, 0, none⟩ ∧ n = 10 ∧ ClsS w 0 w.heap.size g := by
  obtain ⟨xs, ⟨_, ⟨_, h0⟩ | ⟨g, cap, cur, hv, hb, hg, hn, hm, hs, hx⟩⟩, hp⟩ := h
  · omega
  · injection hv with hA hN
    refine ⟨g, hA, hN, (Array.getElem?_eq_some_iff.1 hg).1, Nat.le_refl _, fun i c hc => ?_⟩
    have hi : i < 10 := (List.getElem?_eq_some_iff.1 hc).1
    obtain ⟨g1, g2, _, _, s1, s2, hcell⟩ := hp i c hi hc
    have hk : ∀ j u, (cellK c g1 g2)[j]? = some u → w.cell? ⟨g, i * 6 + j, none⟩ = some u := fun j u hu => by
      rw [cell_of_row w g (i * 6 + j) cur _ _ hg]
      have h2 := hcell j u hu
      have hj : j < 6 := (List.getElem?_eq_some_iff.1 hu).1
      rw [← hx, List.getElem?_take, if_pos (by omega)] at h2
      simpa using h2
    exact ⟨_, _, _, _, hk 0 _ rfl, hk 1 _ rfl, hk 2 _ rfl, hk 3 _ rfl, hk 4 _ rfl, hk 5 _ rfl, SrcO.obj s1, SrcO.obj s2, fun _ _ => Nat.zero_le _, fun _ _ => Nat.zero_le _⟩
theorem info_cls : (Tryd.prog.info? 31).map (fun i => (i.zero, i.size, i.bytes)) = some (some (.agg #[.string ⟨#[]⟩, .string ⟨#[]⟩, .string ⟨#[]⟩, .int .i64 0, .slice none 0 0, .slice none 0 0]), 6, 104) := by kernel_rfl
/-- The cells of a row that is made anew. -/
theorem new_cells (w : World) (L : List Value) (T : TypeId) (j : Nat) (u : Value) (h : L[j]? = some u) : (w.alloc (.cells L.toArray T)).cell? ((⟨w.heap.size, 0, none⟩ : Addr).add j) = some u := by
  have ha : (⟨w.heap.size, 0, none⟩ : Addr).add j = ⟨w.heap.size, j, none⟩ := by
    rcases j with _ | j
    · rfl
    · simp [Addr.add]
  rw [ha, cell_of_row _ _ _ _ _ _ (heap_alloc_new w _), List.getElem?_toArray, h]
theorem cellK_one (c : Cl) (g1 g2 : Nat) : ∀ u ∈ cellK c g1 g2, u.oneCell' = true := by
  intro u hu
  simp only [cellK, List.mem_cons, List.not_mem_nil, or_false] at hu
  rcases hu with rfl | rfl | rfl | rfl | rfl | rfl <;> rfl
set_option maxRecDepth 8000 in
set_option maxHeartbeats 4000000 in
theorem classes_any (g o : Nat) (w : World) (HT : TabsC w g o) :
    Calls Tryd.prog 14 #[] w fun e w' => ∃ g cp : Nat, e = .returned (.slice (some ⟨g, 0, none⟩) 10 cp) ∧ ClsS w' 0 w'.heap.size g ∧ Below w.heap.size w w' := by
  have CC := Lib.hid fun (c : Cl) (hc : c ∈ clss) W (hb : Below w.heap.size w W) => class_any c W hc (HT.below hb).spc
  have hlen : Hid (clss.length = 10) := Lib.hid rfl
  have t0 := HT.cls.2.2.1
  replace HT := Lib.hid HT
  go_enter Tryd.func14, Tryd.ntmps14
  go_wp2_with fail
  go_loopw [1, 6] (fun lv iv wr => ∃ (k cp : Nat) (A : Option Addr), k ≤ 10 ∧ lv = .slice A k cp ∧ iv = .int .i64 (k : Int) ∧ Hid (ClI wr w.heap.size k (.slice A k cp)) ∧ Hid (Below w.heap.size w wr)) (fun _ iv _ => 10 - (intOf iv).toNat)
  case atStart => exact ⟨0, 0, none, Nat.zero_le _, rfl, rfl, Lib.hid (ClI.nil _ _), Lib.hid (Below.refl _ _)⟩
  case round =>
    obtain ⟨k, cp, A, hk, rfl, rfl, HI, HB⟩ := hrel
    have zr := HB.out.size
    by_cases hlt : k < 10
    · have i0 : (0 : Int) ≤ (k : Int) := by omega
      have i1 : (k : Int) < 10 := by omega
      obtain ⟨c, hc⟩ : ∃ c, clss[k]? = some c := ⟨clss[k]'(by rw [hlen.out]; exact hlt), List.getElem?_eq_getElem _⟩
      have hmem := List.mem_of_getElem? hc
      obtain ⟨p0, p1, p2, p3, p4, p5⟩ := (HT.out.below HB.out).cls.2.2.2 k c hc
      replace hc := Lib.hid hc
      go_upto_region 5 with fail
      obtain ⟨V, hV⟩ : ∃ V, V = wr.alloc (.cells #[.string (baO c.name), .string (baO c.oid), .string (baO c.super), .int .i64 (c.kind : Int), .string (baO (txt c.must)), .string (baO (txt c.may))] 64) := ⟨_, rfl⟩
      have hb : Below wr.heap.size wr V := by rw [hV]; exact (Below.refl _ _).alloc (Nat.le_refl _) _
      have hz : V.heap.size = wr.heap.size + 1 := by rw [hV]; simp
      have HBV := Lib.hid (HB.out.trans (hb.mono zr))
      have HWV := Lib.hid hb
      obtain ⟨m0, m1, m2, m3, m4, m5, _, _, _, _, _, _⟩ := row6 (show V.heap[wr.heap.size]? = some (.cells #[.string (baO c.name), .string (baO c.oid), .string (baO c.super), .int .i64 (c.kind : Int), .string (baO (txt c.must)), .string (baO (txt c.may))] 64) by rw [hV]; exact heap_alloc_new wr _)
      rw [← hV]
      clear hV hb p0 p1 p2 p3 p4 p5
      go_wp2_with fail
      refine (CC.out c hmem V HBV.out).mono ?_
      rintro _ w3 ⟨g1, g2, rfl, hg1, hg2, hs1, hs2, hb⟩
      have z3 := hb.size
      have HB3 := Lib.hid (HBV.out.trans (hb.mono (by omega)))
      have HW3 := Lib.hid (HWV.out.trans (hb.mono (by omega)))
      have HS1 := Lib.hid hs1
      have HS2 := Lib.hid hs2
      clear hb hs1 hs2
      obtain ⟨xs, hown, hp⟩ := HI.out
      have hxl := hown.1
      have HL := Lib.hid (own_lt hown)
      have HO := Lib.hid ((own_below hown HW3.out).alloc (.cells #[.string (baO c.name), .string (baO c.oid), .string (baO c.super), .int .i64 (c.kind : Int), .slice (some ⟨g1, 0, none⟩) c.must.length c.must.length, .slice (some ⟨g2, 0, none⟩) c.may.length c.may.length] 31))
      have HP := Lib.hid hp
      clear hown hp
      unfold clsV
      dsimp only []
      go_wp2_with (at_builtin; refine append_six rfl (.tmp 10) (.tmp 13) 41 31 rfl Tryd.underlying41 info_cls rfl (by decide) w.heap.size _ k xs rfl HO.out ⟨w3.heap.size, 0, none⟩ 1 (cellK c g1 g2) rfl rfl (new_cells w3 (cellK c g1 g2) 31) (cellK_one c g1 g2) (by omega) (by simp; omega) ?_; intro Ac cc wc hoc hgc hat hbc; have HOc := Lib.hid hoc; have HGc := Lib.hid hgc; have Hat := Lib.hid hat; have HBc := Lib.hid hbc; clear hoc hgc hat hbc)
      go_roundw
      case rel =>
        refine ⟨k + 1, cc, Ac, by omega, rfl, by go_num, Lib.hid ?_, Lib.hid (HB3.out.trans (((Below.refl _ _).alloc (by omega) _).trans HBc.out))⟩
        have hA := Below.alloc (Below.refl w3.heap.size w3) (Nat.le_refl _) (.cells #[.string (baO c.name), .string (baO c.oid), .string (baO c.super), .int .i64 (c.kind : Int), .slice (some ⟨g1, 0, none⟩) c.must.length c.must.length, .slice (some ⟨g2, 0, none⟩) c.may.length c.may.length] 31)
        refine ClI.step (g1 := g1) (g2 := g2) (HW3.out.trans (hA.mono (by omega))) HP.out HL.out hxl hc.out (by omega) (by omega) ?_ ?_ HOc.out HGc.out Hat.out
        · rw [hA.block g1 (Array.getElem?_eq_some_iff.1 HS1.out).1]; exact HS1.out
        · rw [hA.block g2 (Array.getElem?_eq_some_iff.1 HS2.out).1]; exact HS2.out
      case measure => simp [intOf]; omega
    · obtain rfl : k = 10 := by omega
      have i1 : ¬ ((10 : Nat) : Int) < 10 := by omega
      obtain ⟨g', hA, _, hS⟩ := HI.out.done
      have HS := Lib.hid hS
      subst hA
      clear hS
      go_wp2_with fail
      go_ret
      exact ⟨g', ⟨cp, rfl⟩, HS.out, HB.out⟩
end Go.Proofs.YtllmffmmfpecaaaDoor
