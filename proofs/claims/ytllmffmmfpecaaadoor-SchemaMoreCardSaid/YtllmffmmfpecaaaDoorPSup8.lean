/-
  The program's superclasses: the rows of a class and of all classes above it.
-/
import Derived.Test.YtllmffmmfpecaaaDoorPClasses8
namespace Go.Proofs.YtllmffmmfpecaaaDoor
open Go.RowKit

theorem info_row : (Tryd.prog.info? 64).map (fun i => (i.zero, i.size, i.bytes)) = some (some (.agg #[.string ⟨#[]⟩, .string ⟨#[]⟩, .string ⟨#[]⟩, .int .i64 0, .string ⟨#[]⟩, .string ⟨#[]⟩]), 6, 88) := by kernel_rfl
theorem cellR_one (c : Cl) : ∀ u ∈ cellR c, u.oneCell' = true := by
  intro u hu
  simp only [cellR, List.mem_cons, List.not_mem_nil, or_false] at hu
  rcases hu with rfl | rfl | rfl | rfl | rfl | rfl <;> rfl
theorem OwnR.alloc {w : World} {base : Nat} {v : Value} {L : List Cl} (h : OwnR w base v L) (o : Obj) : OwnR (w.alloc o) base v L := World.ownsRow.alloc h o
/-- A block that holds a row of the table, or nothing's. -/
def rowB (o : Option Cl) : Obj := match o with
  | some c => (.cells #[.string (baO c.name), .string (baO c.oid), .string (baO c.super), .int .i64 (c.kind : Int), .string (baO (txt c.must)), .string (baO (txt c.may))] 64)
  | none => (.cells #[.string ⟨#[]⟩, .string ⟨#[]⟩, .string ⟨#[]⟩, .int .i64 0, .string ⟨#[]⟩, .string ⟨#[]⟩] 64)
/-- What superclasses tells. -/
def SupS (L : List Cl) (base : Nat) (e : Ending) (w : World) : Prop := ∃ (A : Option Addr) (c : Nat), e = .returned (.slice A L.length c) ∧ OwnR w base (.slice A L.length c) L
set_option maxRecDepth 8000 in
set_option maxHeartbeats 4000000 in
theorem sup_any (s : List UInt8) (g o : Nat) (w : World) (hs : s.length ≤ 600) (HT : TabsC w g o) :
    Calls Tryd.prog 30 #[.string (baO s)] w fun e w' => SupS (sup s) w.heap.size e w' ∧ Below w.heap.size w w' := by
  have CR := Lib.hid fun (x : List UInt8) (hx : x.length ≤ 600) W (hb : Below w.heap.size w W) => findR_any (baO x) g o W (by rw [baO_size]; exact hx) (HT.below hb).cls
  simp only [baO_list] at CR
  clear HT
  go_enter Tryd.func30, Tryd.ntmps30
  go_wp2_with fail
  refine (CR.out s hs w (Below.refl _ _)).mono ?_
  rintro _ w1 ⟨rfl, hb⟩
  have z1 := hb.size
  have HB1 := Lib.hid hb
  clear hb
  obtain ⟨q, hq⟩ : ∃ q, (findC s).isSome = q := ⟨_, rfl⟩
  have start : Hid (∀ W, W = w1.alloc (rowB (findC s)) → Below w.heap.size w W ∧ W.heap[w1.heap.size]? = some (rowB (findC s))) := Lib.hid fun W h => by
    rw [h]
    exact ⟨HB1.out.alloc z1 _, heap_alloc_new w1 _⟩
  have Hq := Lib.hid hq
  have go : ∀ (v : Value), valR (findC s) = .tuple #[v, .bool q] → w1.alloc (rowB (findC s)) = w1.alloc (rowB (findC s)) := fun _ _ => rfl
  clear go
  have hval : ∃ (u0 u1 u2 : ByteArray) (u3 : Int) (u4 u5 : ByteArray), valR (findC s) = .tuple #[.agg #[.string u0, .string u1, .string u2, .int .i64 u3, .string u4, .string u5], .bool q] ∧ rowB (findC s) = .cells #[.string u0, .string u1, .string u2, .int .i64 u3, .string u4, .string u5] 64 := by
    rw [← hq]
    rcases findC s with _ | c
    · exact ⟨_, _, _, _, _, _, rfl, rfl⟩
    · exact ⟨_, _, _, _, _, _, rfl, rfl⟩
  obtain ⟨u0, u1, u2, u3, u4, u5, hv, hr⟩ := hval
  rw [hv]
  rw [hr] at start
  have Hr := Lib.hid hr
  clear hr hv hq
  dsimp only []
  go_upto_region 3 with fail
  obtain ⟨V, hV⟩ : ∃ V, V = w1.alloc (.cells #[.string u0, .string u1, .string u2, .int .i64 u3, .string u4, .string u5] 64) := ⟨_, rfl⟩
  obtain ⟨hb, hblk⟩ := start.out V hV
  have zV : V.heap.size = w1.heap.size + 1 := by rw [hV]; simp
  have HBV := Lib.hid hb
  have HKV := Lib.hid (show V.heap[w1.heap.size]? = some (rowB (findC s)) by rw [Hr.out]; exact hblk)
  rw [← hV]
  clear start hV hb hblk Hr
  go_loopg [3, 4, 5] (sup s).length (fun m lv pv ov wr => ∃ (dn : List Cl) (cur : List UInt8) (pb n cp : Nat) (A : Option Addr) (q : Bool), lv = .slice A n cp ∧ pv = .pointer (some ⟨pb, 0, none⟩) ∧ ov = .bool q ∧ m = (sup cur).length ∧ n ≤ 3 ∧
    Hid ((findC cur).isSome = q) ∧ Hid (dn.length = n) ∧ Hid (dn ++ sup cur = sup s) ∧ Hid (OwnR wr w.heap.size (.slice A n cp) dn) ∧ w.heap.size ≤ pb ∧ Hid ((Value.slice A n cp).ownBlock ≠ some pb) ∧ Hid (wr.heap[pb]? = some (rowB (findC cur))) ∧ Hid (Below w.heap.size w wr))
  case atStart => exact ⟨[], s, w1.heap.size, 0, 0, none, q, rfl, rfl, rfl, rfl, Nat.zero_le _, Hq, Lib.hid rfl, Lib.hid rfl, Lib.hid (OwnR.nil _ _), z1, Lib.hid (by intro h; cases h), HKV, HBV⟩
  case round =>
    obtain ⟨dn, cur, pb, n, cp, A, q, rfl, rfl, rfl, rfl, hn, HQ, HN, HD, HO, hpb, HF, HK, HB⟩ := hrel
    have zr := HB.out.size
    rcases q with _ | _
    · have hnone : findC cur = none := by
        rcases h : findC cur with _ | c
        · rfl
        · have := HQ.out
          rw [h] at this
          cases this
      have hfin : dn = sup s := by
        have := HD.out
        rw [sup_none hnone, List.append_nil] at this
        exact this
      subst hfin
      clear HK
      go_wp2_with fail
      go_ret
      exact ⟨⟨A, cp, by rw [HN.out]; rfl, by rw [HN.out]; exact HO.out⟩, HB.out⟩
    · obtain ⟨c, hf⟩ : ∃ c, findC cur = some c := by
        rcases h : findC cur with _ | c
        · have := HQ.out
          rw [h] at this
          cases this
        · exact ⟨c, rfl⟩
      have hc : c ∈ clss := findC_mem hf
      have hsup : sup cur = c :: sup c.super := sup_some hf
      have HD' := HD.out
      rw [hsup] at HD'
      have hn3 : n < 3 := by
        have h1 := congrArg List.length HD'
        rw [List.length_append, List.length_cons, HN.out] at h1
        have := sup_len s
        omega
      have HK' := HK.out
      rw [hf] at HK'
      replace HD' := Lib.hid HD'
      replace hsup := Lib.hid hsup
      have HKc := Lib.hid HK'
      have hpl : pb < wr.heap.size := (Array.getElem?_eq_some_iff.1 HK').1
      obtain ⟨m0, m1, m2, m3, m4, m5, _, _, _, _, _, _⟩ := row6 (show wr.heap[pb]? = some (.cells #[.string (baO c.name), .string (baO c.oid), .string (baO c.super), .int .i64 (c.kind : Int), .string (baO (txt c.must)), .string (baO (txt c.may))] 64) from HK')
      have hcl := cls_len c hc
      have hsl : c.super.length ≤ 600 := by have := (cls_len c hc).2.2; omega
      clear HK' HK HQ
      go_upto_region 6 with (at_builtin; refine append_six rfl (.tmp 18) (.tmp 20) 69 64 rfl Tryd.underlying69 info_row rfl (by decide) w.heap.size _ n (cellsR dn) rfl (by have := HO.out.alloc (.cells #[.string (baO c.name), .string (baO c.oid), .string (baO c.super), .int .i64 (c.kind : Int), .string (baO (txt c.must)), .string (baO (txt c.may))] 64); unfold OwnR at this; rw [HN.out] at this; exact this) ⟨wr.heap.size, 0, none⟩ 1 (cellR c) rfl rfl (new_cells wr (cellR c) 64) (cellR_one c) (by omega) (by simp; omega) ?_; intro Ac cc wc hoc hgc hat hbc; have HOc := Lib.hid hoc; have HGc := Lib.hid hgc; have Hat := Lib.hid hat; have HBc := Lib.hid hbc; clear hoc hgc hat hbc)
      have zc : wr.heap.size + 1 ≤ wc.heap.size := by
        have := HBc.out.size
        simpa using this
      have hblk : wc.heap[pb]? = some (.cells #[.string (baO c.name), .string (baO c.oid), .string (baO c.super), .int .i64 (c.kind : Int), .string (baO (txt c.must)), .string (baO (txt c.may))] 64) := (HGc.out.block pb (by simp; omega) (Ne.symm HF.out)).trans ((heap_alloc_old wr _ hpl).trans HKc.out)
      obtain ⟨m0, m1, m2, m3, m4, m5, _, _, _, _, _, _⟩ := row6 hblk
      have HOw := Lib.hid (show OwnR wc w.heap.size (.slice Ac (n + 1) cc) (dn ++ [c]) by
        unfold OwnR
        rw [List.length_append, HN.out]
        have := HOc.out
        unfold cellsR at this ⊢
        rw [List.flatMap_append]
        simpa using this)
      have HBw := Lib.hid (HB.out.trans (((Below.refl _ _).alloc zr _).trans HBc.out))
      have hfar : (Value.slice Ac (n + 1) cc).ownBlock ≠ some wc.heap.size := fun e => by
        have := own_lt HOc.out _ e
        omega
      replace hfar := Lib.hid hfar
      clear HOc HGc Hat HBc hblk
      go_upto_region 4 with fail
      obtain ⟨V2, hV2⟩ : ∃ V2, V2 = wc.alloc (.cells #[.string (baO c.name), .string (baO c.oid), .string (baO c.super), .int .i64 (c.kind : Int), .string (baO (txt c.must)), .string (baO (txt c.may))] 64) := ⟨_, rfl⟩
      have hb2 : Below wc.heap.size wc V2 := by rw [hV2]; exact (Below.refl _ _).alloc (Nat.le_refl _) _
      have z2 : V2.heap.size = wc.heap.size + 1 := by rw [hV2]; simp
      have HK2 := Lib.hid (show V2.heap[wc.heap.size]? = some (.cells #[.string (baO c.name), .string (baO c.oid), .string (baO c.super), .int .i64 (c.kind : Int), .string (baO (txt c.must)), .string (baO (txt c.may))] 64) by rw [hV2]; exact heap_alloc_new wc _)
      have HB2 := Lib.hid (HBw.out.trans (hb2.mono (by omega)))
      have HO2 := Lib.hid (HOw.out.below hb2)
      obtain ⟨k0, k1, k2, k3, k4, k5, _, _, _, _, _, _⟩ := row6 HK2.out
      rw [← hV2]
      clear hV2 hb2 m0 m1 m2 m3 m4 m5
      go_wp2_with fail
      refine (CR.out c.super hsl V2 HB2.out).mono ?_
      rintro _ w4 ⟨rfl, hb4⟩
      have z4 := hb4.size
      have HB4 := Lib.hid (HB2.out.trans (hb4.mono (by omega)))
      have HO4 := Lib.hid (HO2.out.below hb4)
      have hcc := (hb4.block wc.heap.size (by omega)).trans HK2.out
      clear hb4
      have fin : Hid (∀ v0 v1 v2 v3 v4 v5 : Value, rowB (findC c.super) = .cells #[v0, v1, v2, v3, v4, v5] 64 →
          OwnR (set6 w4 wc.heap.size v0 v1 v2 v3 v4 v5) w.heap.size (.slice Ac (n + 1) cc) (dn ++ [c]) ∧ (set6 w4 wc.heap.size v0 v1 v2 v3 v4 v5).heap[wc.heap.size]? = some (rowB (findC c.super)) ∧ Below w.heap.size w (set6 w4 wc.heap.size v0 v1 v2 v3 v4 v5)) := Lib.hid fun v0 v1 v2 v3 v4 v5 hr => by
        refine ⟨?_, ?_, set6_below HB4.out (by omega) _ _ _ _ _ _⟩
        · obtain ⟨h1, h0 | ⟨gg, cap, cur', hv, hbs, hg, hn, hm, hss, hx⟩⟩ := HO4.out
          · exact ⟨h1, .inl h0⟩
          · refine ⟨h1, .inr ⟨gg, cap, cur', hv, hbs, ?_, hn, hm, hss, hx⟩⟩
            rw [set6_heap _ _ _ _ _ _ _ _ gg (fun e => hfar.out (by rw [hv, e]; rfl))]
            exact hg
        · rw [hr]
          exact set6_same hcc _ _ _ _ _ _
      obtain ⟨r0, r1, r2, r3, r4, r5, f0, f1, f2, f3, f4, f5⟩ := row6 hcc
      replace hcc := Lib.hid hcc
      have next : Hid ((dn ++ [c]) ++ sup c.super = sup s) := Lib.hid (by rw [List.append_assoc]; exact HD'.out)
      have hlen : Hid ((dn ++ [c]).length = n + 1) := Lib.hid (by rw [List.length_append, HN.out]; rfl)
      rcases hf2 : findC c.super with _ | d
      · rw [hf2] at fin
        unfold valR
        dsimp only []
        go_wp2_with fail
        have HX : set6 w4 wc.heap.size (.string ⟨#[]⟩) (.string ⟨#[]⟩) (.string ⟨#[]⟩) (.int .i64 0) (.string ⟨#[]⟩) (.string ⟨#[]⟩) = ((((((w4.setCell ⟨wc.heap.size, 0, none⟩ (.string ⟨#[]⟩)).setCell ⟨wc.heap.size, 1, none⟩ (.string ⟨#[]⟩)).setCell ⟨wc.heap.size, 2, none⟩ (.string ⟨#[]⟩)).setCell ⟨wc.heap.size, 3, none⟩ (.int .i64 0)).setCell ⟨wc.heap.size, 4, none⟩ (.string ⟨#[]⟩)).setCell ⟨wc.heap.size, 5, none⟩ (.string ⟨#[]⟩)) := rfl
        rw [← HX]
        obtain ⟨h1, h2, h3⟩ := fin.out (.string ⟨#[]⟩) (.string ⟨#[]⟩) (.string ⟨#[]⟩) (.int .i64 0) (.string ⟨#[]⟩) (.string ⟨#[]⟩) rfl
        go_roundg (sup c.super).length
        case measure => rw [hsup.out]; simp
        case rel => exact ⟨dn ++ [c], c.super, wc.heap.size, n + 1, cc, Ac, false, rfl, rfl, rfl, rfl, by omega, Lib.hid (by rw [hf2]; rfl), hlen, next, Lib.hid h1, by omega, hfar, Lib.hid (by rw [hf2]; exact h2), Lib.hid h3⟩
      · rw [hf2] at fin
        unfold valR
        dsimp only []
        go_wp2_with fail
        have HX : set6 w4 wc.heap.size (.string (baO d.name)) (.string (baO d.oid)) (.string (baO d.super)) (.int .i64 (d.kind : Int)) (.string (baO (txt d.must))) (.string (baO (txt d.may))) = ((((((w4.setCell ⟨wc.heap.size, 0, none⟩ (.string (baO d.name))).setCell ⟨wc.heap.size, 1, none⟩ (.string (baO d.oid))).setCell ⟨wc.heap.size, 2, none⟩ (.string (baO d.super))).setCell ⟨wc.heap.size, 3, none⟩ (.int .i64 (d.kind : Int))).setCell ⟨wc.heap.size, 4, none⟩ (.string (baO (txt d.must)))).setCell ⟨wc.heap.size, 5, none⟩ (.string (baO (txt d.may)))) := rfl
        rw [← HX]
        obtain ⟨h1, h2, h3⟩ := fin.out (.string (baO d.name)) (.string (baO d.oid)) (.string (baO d.super)) (.int .i64 (d.kind : Int)) (.string (baO (txt d.must))) (.string (baO (txt d.may))) rfl
        go_roundg (sup c.super).length
        case measure => rw [hsup.out]; simp
        case rel => exact ⟨dn ++ [c], c.super, wc.heap.size, n + 1, cc, Ac, true, rfl, rfl, rfl, rfl, by omega, Lib.hid (by rw [hf2]; rfl), hlen, next, Lib.hid h1, by omega, hfar, Lib.hid (by rw [hf2]; exact h2), Lib.hid h3⟩
end Go.Proofs.YtllmffmmfpecaaaDoor
