/- Filters. -/
import Derived.Test.YtcbiedonmibfaaaGreatDoorTX
import Derived.Test.YtcbiedonmibfaaaGreatDoorFE
import Derived.Test.YtcbiedonmibfaaaGreatDoorF14h
import Derived.Deep.AppendLies
namespace Go.Proofs.YtcbiedonmibfaaaGreatDoor
open Go.RowKit Go.Lib
def naF (f : Ft) : Nat := if f.a = [] then 0 else 1
theorem parts_len (f : Ft) : f.parts.length = naF f + f.b.length + (if f.z = [] then 0 else 1) := by
 unfold Ft.parts naF
 rw [List.length_append, List.length_append, List.length_map]
 split <;> split <;> simp <;> omega
theorem parts_at (f : Ft) (i : Nat) (hi : i < f.parts.length) :
 (i = 0 ∧ f.a ≠ [] ∧ f.parts[i] = octE 2 0 f.a) ∨ (∃ k, ∃ hk : k < f.b.length, i = naF f + k ∧ f.parts[i] = octE 2 1 f.b[k]) ∨ (f.z ≠ [] ∧ i = naF f + f.b.length ∧ f.parts[i] = octE 2 2 f.z) := by
 have hl := parts_len f
 have hget : f.parts[i]? = some f.parts[i] := List.getElem?_eq_getElem hi
 by_cases ha : f.a = []
 · have hn : naF f = 0 := by unfold naF; rw [if_pos ha]
   by_cases hb : i < f.b.length
   · refine .inr (.inl ⟨i, hb, by omega, ?_⟩)
     have : f.parts[i]? = some (octE 2 1 f.b[i]) := by
      unfold Ft.parts
      rw [if_pos ha, List.nil_append, List.getElem?_append_left (by rw [List.length_map]; exact hb), List.getElem?_map, List.getElem?_eq_getElem hb]
      rfl
     rw [hget] at this
     injection this
   · by_cases hz : f.z = []
     · rw [if_pos hz] at hl
       omega
     · rw [if_neg hz] at hl
       refine .inr (.inr ⟨hz, by omega, ?_⟩)
       have hib : i = f.b.length := by omega
       have : f.parts[i]? = some (octE 2 2 f.z) := by
        unfold Ft.parts
        rw [if_pos ha, if_neg hz, List.nil_append, List.getElem?_append_right (by rw [List.length_map]; omega), List.length_map, hib]
        simp
       rw [hget] at this
       injection this
 · have hn : naF f = 1 := by unfold naF; rw [if_neg ha]
   rcases Nat.eq_zero_or_pos i with h0 | h0
   · refine .inl ⟨h0, ha, ?_⟩
     have : f.parts[i]? = some (octE 2 0 f.a) := by
      unfold Ft.parts
      rw [if_neg ha, h0]
      rfl
     rw [hget] at this
     injection this
   · obtain ⟨i', rfl⟩ : ∃ i', i = i' + 1 := ⟨i - 1, by omega⟩
     by_cases hb : i' < f.b.length
     · refine .inr (.inl ⟨i', hb, by omega, ?_⟩)
       have : f.parts[i' + 1]? = some (octE 2 1 f.b[i']) := by
        unfold Ft.parts
        rw [if_neg ha, List.singleton_append, List.getElem?_cons_succ, List.getElem?_append_left (by rw [List.length_map]; exact hb), List.getElem?_map, List.getElem?_eq_getElem hb]
        rfl
       rw [hget] at this
       injection this
     · by_cases hz : f.z = []
       · rw [if_pos hz] at hl
         omega
       · rw [if_neg hz] at hl
         refine .inr (.inr ⟨hz, by omega, ?_⟩)
         have hib : i' = f.b.length := by omega
         have : f.parts[i' + 1]? = some (octE 2 2 f.z) := by
          unfold Ft.parts
          rw [if_neg ha, if_neg hz, List.singleton_append, List.getElem?_cons_succ, List.getElem?_append_right (by rw [List.length_map]; omega), List.length_map, hib]
          simp
         rw [hget] at this
         injection this
structure RpI (f : Ft) (X : Nat) (w wr : World) (i k : Nat) (ai zi : List UInt8) (A : Option Addr) (c : Nat) : Prop where
 but : But X w wr
 lt : X < w.heap.size
 out : wr.heap[X]? = some (.cells #[.int .i64 4, .slice none 0 0, .string (baO f.t), .string ⟨#[]⟩, .string (baO ai), .string (baO zi), .slice A k c] 25 (0, 0))
 row : OwnO wr w.heap.size (.slice A k c) (f.b.take k)
 ha : ai = if i = 0 then [] else f.a
 hk : k = min (i - naF f) f.b.length
 hz : zi = if i ≤ naF f + f.b.length then [] else f.z
theorem RpI.go {f : Ft} {X : Nat} {w wr w3 : World} {i k : Nat} {ai zi : List UInt8} {A : Option Addr} {c : Nat} (h : RpI f X w wr i k ai zi A c) (hb : Below wr.heap.size wr w3) : RpI f X w w3 i k ai zi A c :=
 ⟨h.but.trans (But.of hb), h.lt, (hb.block X (Array.getElem?_eq_some_iff.1 h.out).1).trans h.out, owns_below h.row hb, h.ha, h.hk, h.hz⟩
theorem rp_first {f : Ft} {X : Nat} {w wr : World} {k : Nat} {ai zi : List UInt8} {A : Option Addr} {c : Nat} (h : RpI f X w wr 0 k ai zi A c) (ha : f.a ≠ []) : RpI f X w (wr.setCell ⟨X, 4, none⟩ (.string (baO f.a))) 1 k f.a zi A c := by
 have hlt := h.lt
 have hn : naF f = 1 := by unfold naF; rw [if_neg ha]
 refine ⟨h.but.trans (But.set 4 _), hlt, ?_, ownsRow_setCell_below h.row (by show X < _; exact hlt) _, by simp, ?_, ?_⟩
 · rw [_root_.Go.heap_setCell_same _ _ _ _ _ _ h.out]
   rfl
 · have := h.hk
   rw [hn] at this ⊢
   omega
 · have := h.hz
   rw [if_pos (by omega)] at this
   rw [if_pos (by omega), this]
theorem rp_last {f : Ft} {X : Nat} {w wr : World} {i k : Nat} {ai zi : List UInt8} {A : Option Addr} {c : Nat} (h : RpI f X w wr i k ai zi A c) (hi : i = naF f + f.b.length) : RpI f X w (wr.setCell ⟨X, 5, none⟩ (.string (baO f.z))) (i + 1) k ai f.z A c := by
 have hlt := h.lt
 refine ⟨h.but.trans (But.set 5 _), hlt, ?_, ownsRow_setCell_below h.row (by show X < _; exact hlt) _, ?_, ?_, ?_⟩
 · rw [_root_.Go.heap_setCell_same _ _ _ _ _ _ h.out]
   rfl
 · have := h.ha
   by_cases h0 : i = 0
   · rw [if_pos h0] at this
     have hn : naF f = 0 := by omega
     have hae : f.a = [] := by
      unfold naF at hn
      split at hn
      · assumption
      · cases hn
     rw [if_neg (by omega), this, hae]
   · rw [if_neg h0] at this
     rw [if_neg (by omega), this]
 · have := h.hk
   omega
 · rw [if_neg (by omega)]
theorem rp_between {f : Ft} {X : Nat} {w wr w6 : World} {i k g cap : Nat} {ai zi : List UInt8} {A : Option Addr} {c : Nat} {o : Obj} (h : RpI f X w wr i k ai zi A c) (hk : k < f.b.length) (hi : i = naF f + k)
 (hown : w6.ownsRow w.heap.size 9 1 (.slice (some ⟨g, 0, none⟩) (k + 1) cap) (k + 1) (cellsO (f.b.take k) ++ [.string (baO f.b[k])])) (hg : (wr.alloc o).grownBy w6 (Value.slice A k c).ownBlock) :
 RpI f X w (w6.setCell ⟨X, 6, none⟩ (.slice (some ⟨g, 0, none⟩) (k + 1) cap)) (i + 1) (k + 1) ai zi (some ⟨g, 0, none⟩) cap ∧ w6.cell? ⟨X, 6, none⟩ = some (.slice A k c) ∧ w6.frozen? ⟨X, 6, none⟩ = false := by
 have hlt := h.lt
 have hs := h.but.size
 have hgs := hg.size
 have hsa : (wr.alloc o).heap.size = wr.heap.size + 1 := by simp
 have hr : ∀ j, (Value.slice A k c).ownBlock = some j → w.heap.size ≤ j := fun j hj => (World.ownsRow.lt h.row j hj).1
 have keep : ∀ j, j < w.heap.size → w6.heap[j]? = wr.heap[j]? := fun j hj => by
  rw [hg.block j (by omega) (fun e => by have := hr j e.symm; omega), Below.heap_alloc _ _ _ (by omega)]
 have ho : w6.heap[X]? = _ := (keep X (by omega)).trans h.out
 have htk : f.b.take (k + 1) = f.b.take k ++ [f.b[k]] := by rw [List.take_succ_eq_append_getElem hk]
 refine ⟨⟨?_, hlt, ?_, ?_, ?_, ?_, ?_⟩, cell_of_row _ _ _ _ _ _ ho, free7 ho 6⟩
 · refine But.trans (b := w6) ⟨hg.os.trans h.but.os, hg.tape.trans h.but.tape, hg.output.trans h.but.output, by omega, fun b hb1 hb2 => ?_⟩ (But.set 6 _)
   rw [keep b hb1]
   exact h.but.block b hb1 hb2
 · rw [_root_.Go.heap_setCell_same _ _ _ _ _ _ ho]
   rfl
 · have hO : OwnO w6 w.heap.size (.slice (some ⟨g, 0, none⟩) (k + 1) cap) (f.b.take (k + 1)) := by
    unfold OwnO
    rw [htk, cellsO_app]
    have hl : (f.b.take k ++ [f.b[k]]).length = k + 1 := by
     rw [List.length_append, List.length_take]
     simp
     omega
    rw [hl]
    exact hown
   exact ownsRow_setCell_below hO (by show X < _; exact hlt) _
 · have := h.ha
   by_cases h0 : i = 0
   · rw [if_pos h0] at this
     have hn : naF f = 0 := by omega
     have hae : f.a = [] := by
      unfold naF at hn
      split at hn
      · assumption
      · cases hn
     rw [if_neg (by omega), this, hae]
   · rw [if_neg h0] at this
     rw [if_neg (by omega), this]
 · omega
 · have := h.hz
   rw [if_pos (by omega)] at this
   rw [if_pos (by omega), this]
theorem srcS_of_own {wr : World} {K : Nat} {k : Nat} {A : Option Addr} {c : Nat} {b : List (List UInt8)} (h : OwnO wr K (.slice A k c) b) (hk : k = b.length) : SrcS wr (New K wr) A c b := by
 subst hk
 obtain ⟨_, h0 | ⟨g, cap, cur, hv, hbs, hg, hn, hm, hs, hx⟩⟩ := h
 · injection h0.1 with e1 e2 e3
   subst e1 e3
   have : b = [] := List.eq_nil_of_length_eq_zero h0.2
   subst this
   exact SrcS.none_ _ _
 · injection hv with e1 e2 e3
   subst e1 e3
   refine ⟨hn, by unfold maxLen at hm; exact hm, (by simp), fun ad e => ?_⟩
   injection e with e
   subst e
   refine ⟨fun _ => ⟨hbs, ⟨_, _, hg⟩⟩, fun j l hj => ?_⟩
   rw [add_plain14, cell_of_row wr g _ cur _ _ hg]
   have h2 : (cellsO b)[j]? = some (Value.string (baO l)) := by simp [cellsO, hj]
   rw [← hx, List.getElem?_take, if_pos (by have := (List.getElem?_eq_some_iff.1 hj).1; omega)] at h2
   simpa using h2
set_option maxRecDepth 8000 in
set_option maxHeartbeats 3200000 in
theorem readParts_any (f : Ft) (X : Nat) (I : Nat → Prop) (A : Option Addr) (cc : Nat) (w : World) (hs : SlI w I A cc (Fo.of f.parts)) (hI : ∀ b, I b → b < w.heap.size ∧ b ≠ X) (hb : ∀ x ∈ f.b, x ≠ []) (hlen : f.parts.length ≤ 4000)
 (hX : w.heap[X]? = some (.cells #[.int .i64 4, .slice none 0 0, .string (baO f.t), .string ⟨#[]⟩, .string (baO []), .string (baO []), .slice none 0 0] 25 (0, 0))) :
 Calls Tryz.prog 69 #[.pointer (some ⟨X, 0, none⟩), .slice A f.parts.length cc] w fun en w' => en = .returned (.tuple #[]) ∧ ∃ Ab cb, w'.heap[X]? = some (.cells #[.int .i64 4, .slice none 0 0, .string (baO f.t), .string ⟨#[]⟩, .string (baO f.a), .string (baO f.z), .slice Ab f.b.length cb] 25 (0, 0)) ∧ SrcS w' (New w.heap.size w') Ab cb f.b ∧ But X w w' := by
 obtain ⟨i1s, hi, q1, q2, q3⟩ := info_parts (show (Tryz.prog.info? 9).map (fun i => (i.zero, i.size, i.bytes)) = some (some (.string ⟨#[]⟩), 1, 16) by kernel_rfl)
 have hXl : X < w.heap.size := (Array.getElem?_eq_some_iff.1 hX).1
 have hel : ∀ (i : Nat) (hi : i < f.parts.length), ∃ bl off, A = some ⟨bl, off, none⟩ ∧ I bl ∧ ∃ Ab cb Ak ck, ElAt w I f.parts[i] bl (off + i * 5) Ab cb Ak ck ∧ ElIn w I f.parts[i] Ab cb Ak ck := fun i hi => by
  have h0 : 0 < (Fo.of f.parts).list.length := by rw [Fo.list_of]; omega
  rcases A with _ | ⟨bl, off, spot⟩
  · have := hs.nil rfl
    have h2 := hs.le
    omega
  · obtain ⟨h1, h2, h3⟩ := hs.at_ _ rfl h0
    have : spot = none := h1
    subst this
    have h4 := h3.get i (by rw [Fo.list_of]; exact hi)
    simp only [Fo.list_of] at h4
    exact ⟨bl, off, rfl, h2, h4⟩
 have hle : f.parts.length ≤ cc := by have := hs.le; rwa [Fo.list_of] at this
 have hplen := parts_len f
 have hst : RpI f X w w 0 0 [] [] none 0 := ⟨But.refl _ _, hXl, hX, OwnO.nil _ _, rfl, by simp, by rw [if_pos (Nat.zero_le _)]⟩
 obtain ⟨N, hN⟩ : ∃ N, f.parts.length = N := ⟨_, rfl⟩
 rw [hN] at hlen hle ⊢
 have CD := Hd fun W => demand_ok W
 replace hst := Hd hst
 replace hel := Hd hel
 replace hs := Hd hs
 replace hI := Hd hI
 replace hX := Hd hX
 replace hb := Hd hb
 replace hN := Hd hN
 replace hplen := Hd hplen
 go_enter Tryz.func69, Tryz.ntmps69
 go_wp2_with fail
 go_loopw [9] (fun iv wr => ∃ (i k : Nat) (ai zi : List UInt8) (V : Option Addr) (c : Nat), i ≤ N ∧ iv = .int .i64 (i : Int) ∧ Hid (RpI f X w wr i k ai zi V c)) (fun iv _ => N - (RowKit.intOf iv).toNat)
 case atStart => exact ⟨0, 0, [], [], none, 0, Nat.zero_le _, rfl, hst⟩
 case round =>
  obtain ⟨i, k, ai, zi, V, c, hi9, rfl, HI⟩ := hrel
  by_cases hlt : i < N
  · obtain ⟨bl, off, rfl, hIb, Aq, cq, Bq, dq, hat, hqin⟩ := hel.out i (by rw [hN.out]; exact hlt)
    have hbw := hI.out bl hIb
    have cell : ∀ j, wr.cell? ⟨bl, j, none⟩ = w.cell? ⟨bl, j, none⟩ := fun j => HI.out.but.cell (a := ⟨bl, j, none⟩) hbw.1 hbw.2
    have i0 : (0 : Int) ≤ (i : Int) := by omega
    have i1 : (i : Int) < (N : Int) := by omega
    obtain ⟨nq, q, hq⟩ : ∃ (nq : Int) (q : List UInt8), f.parts[i]'(by rw [hN.out]; exact hlt) = octE 2 nq q ∧ q ≠ [] ∧ ((nq = 0 ∧ q = f.a ∧ i = 0) ∨ (∃ hk : i - naF f < f.b.length, nq = 1 ∧ q = f.b[i - naF f] ∧ i = naF f + (i - naF f)) ∨ (nq = 2 ∧ q = f.z ∧ i = naF f + f.b.length)) := by
     rcases parts_at f i (by rw [hN.out]; exact hlt) with ⟨h0, h1, h2⟩ | ⟨k', hk', h1, h2⟩ | ⟨h0, h1, h2⟩
     · exact ⟨0, f.a, h2, h1, .inl ⟨rfl, rfl, h0⟩⟩
     · have e : i - naF f = k' := by omega
       exact ⟨1, f.b[k'], h2, hb.out _ (List.getElem_mem hk'), .inr (.inl ⟨by omega, rfl, by simp only [e], by omega⟩)⟩
     · exact ⟨2, f.z, h2, h0, .inr (.inr ⟨rfl, rfl, h1⟩)⟩
    obtain ⟨hq1, hq2, hq3⟩ := hq
    rw [hq1] at hat hqin
    have y0 : wr.cell? ⟨bl, off + i * 5, none⟩ = some (.int .i64 2) := (cell _).trans hat.c
    have y1 : wr.cell? ⟨bl, off + i * 5 + 1, none⟩ = some (.bool false) := (cell _).trans hat.m
    have y2 : wr.cell? ⟨bl, off + i * 5 + 2, none⟩ = some (.int .i64 nq) := (cell _).trans hat.n
    have y3 : wr.cell? ⟨bl, off + i * 5 + 3, none⟩ = some (.slice Aq q.length cq) := by have := (cell _).trans hat.b; rw [show (octE 2 nq q).b.length = q.length from nb_len q] at this; exact this
    have y4 : wr.cell? ⟨bl, off + i * 5 + 4, none⟩ = some (.slice Bq 0 dq) := (cell _).trans hat.k
    have hqs : SrcI w I Aq cq (nb q) := hqin.b
    have CC := fun W (hW : Below wr.heap.size wr W) => content_any 2 nq q I Aq Bq cq dq W (hqs.keep fun p hp => (HI.out.but.trans (But.of hW)).cell (hI.out _ hp).1 (hI.out _ hp).2) (fun b hb => Nat.lt_of_lt_of_le (hI.out b hb).1 (Nat.le_trans HI.out.but.size hW.size))
    have CP := Hd fun W => part14_any nq W
    have qe : (baO q).toList.isEmpty = false := by
     rw [Lib.toList_data]
     cases q with
     | nil => exact absurd rfl hq2
     | cons _ _ => rfl
    have qe2 : ¬ (baO q).toList = [] := by
     rw [Lib.toList_data]
     exact fun h => hq2 (by simpa [baO] using h)
    clear cell hq1
    replace hq3 := Hd hq3
    replace hat := Hd hat
    replace hqin := Hd hqin
    replace hqs := Hd hqs
    go_upto_region 3 with fail
    clear y0 y1 y2 y3 y4
    obtain ⟨W2, hW2⟩ : ∃ W2, W2 = wr.alloc (.cells #[.int .i64 2, .bool false, .int .i64 nq, .slice Aq q.length cq, .slice Bq 0 dq] 43) := ⟨_, rfl⟩
    have hbW2 : Below wr.heap.size wr W2 := by rw [hW2]; exact (Below.refl _ _).alloc (Nat.le_refl _) _
    have hY2 : W2.heap[wr.heap.size]? = some (.cells #[.int .i64 2, .bool false, .int .i64 nq, .slice Aq q.length cq, .slice Bq 0 dq] 43 (0, 0)) := by rw [hW2]; exact heap_alloc_new wr _
    have hz2 : W2.heap.size = wr.heap.size + 1 := by rw [hW2]; simp
    rw [← hW2]
    obtain ⟨Y, hY⟩ : ∃ Y, Y = wr.heap.size := ⟨_, rfl⟩
    rw [← hY]
    rw [← hY] at hY2 hz2
    have CC2 := Hd fun W (h : Below W2.heap.size W2 W) => CC W (hbW2.trans (h.mono (by omega)))
    have KEEP : Hid (∀ W, Below W2.heap.size W2 W → W.cell? ⟨Y, 0, none⟩ = some (.int .i64 2) ∧ W.cell? ⟨Y, 1, none⟩ = some (.bool false) ∧ W.cell? ⟨Y, 2, none⟩ = some (.int .i64 nq) ∧ W.cell? ⟨Y, 3, none⟩ = some (.slice Aq q.length cq) ∧ W.cell? ⟨Y, 4, none⟩ = some (.slice Bq 0 dq)) := Hd fun W h => by
     obtain ⟨z0, z1, z2, z3, z4⟩ := cells5e ((h.block _ (by omega)).trans hY2)
     exact ⟨z0, z1, z2, z3, z4⟩
    replace hW2 := Hd hW2
    replace hY2 := Hd hY2
    replace hY := Hd hY
    clear CC
    refine wp_region_held_drew (S := (fun W => W.cell? ⟨Y, 0, none⟩ = some (.int .i64 2) ∧ W.cell? ⟨Y, 1, none⟩ = some (.bool false) ∧ W.cell? ⟨Y, 2, none⟩ = some (.int .i64 nq) ∧ W.cell? ⟨Y, 3, none⟩ = some (.slice Aq q.length cq) ∧ W.cell? ⟨Y, 4, none⟩ = some (.slice Bq 0 dq))) (by kernel_rfl) (KEEP.out _ (Below.refl _ _).drew) ?_
    intro hHeld
    refine tk 0 14 hHeld ?_
    refine tk 1 15 hHeld ?_
    refine tk 2 16 hHeld ?_
    refine tk 3 17 hHeld ?_
    refine rdy [4] ?_
    refine .cons rfl (fun K hK => ?_) .nil
    go_simp
    go_at_call 116
    refine (CP.out _).mono ?_
    rintro _ v1 ⟨rfl, hv1⟩
    have HB1 := Hd (((Below.refl W2.heap.size W2).drew).trans (hv1.mono ((Below.refl W2.heap.size W2).drew).size))
    clear hv1
    dsimp only []
    refine hK.out _ _ (KEEP.out _ HB1.out) ?_
    clear hK K hHeld
    intro hHeld
    refine rdy [5] ?_
    refine .cons rfl (fun K hK => ?_) .nil
    go_simp
    go_at_call 67
    refine (CC2.out _ HB1.out).mono ?_
    rintro _ v2 ⟨rfl, hv2⟩
    have HB2 := Hd ((HB1.out).trans (hv2.mono (HB1.out).size))
    clear hv2
    dsimp only []
    refine hK.out _ _ (KEEP.out _ HB2.out) ?_
    clear hK K hHeld
    intro hHeld
    refine tk 6 6 hHeld ?_
    refine wpAnyH_done (by kernel_rfl) ?_ _
    have HI3 := Hd (HI.out.go (hbW2.trans ((HB2.out).mono (by have := hY.out; omega))))
    have hY3 := ((HB2.out).block Y (by omega)).trans hY2.out
    obtain ⟨y0, y1, y2, y3, y4⟩ := cells5e hY3
    clear y0 y1 y3 y4
    replace hY3 := Hd hY3
    clear CC2
    go_wp2_with fail
    refine (CD.out _).mono ?_
    rintro _ w4 ⟨rfl, h4⟩
    subst w4
    dsimp only []
    rcases hq3.out with ⟨rfl, hqa, hi0⟩ | ⟨hk, rfl, hqb, hik⟩ | ⟨rfl, hqz, hil⟩
    · subst hi0
      have x4 : v2.cell? ⟨X, 4, none⟩ = some (.string (baO ai)) := cell_of_row _ _ _ _ _ _ HI3.out.out
      have xf := free7 HI3.out.out 4
      have HS : Hid (RpI f X w (v2.setCell ⟨X, 4, none⟩ (.string (baO q))) 1 k q zi V c) := Hd (by rw [hqa]; exact rp_first HI3.out (by rw [← hqa]; exact hq2))
      replace hqa := Hd hqa
      go_wp2_with fail
      refine (CD.out _).mono ?_
      rintro _ w4 ⟨rfl, h4⟩
      subst w4
      dsimp only []
      go_wp2_with fail
      go_roundw
      case rel => exact ⟨1, k, q, zi, V, c, by omega, by go_num, HS⟩
      case measure => simp [RowKit.intOf]; omega
    · have hkk : k = i - naF f := by have := HI3.out.hk; omega
      rw [← hkk] at hk hik
      have hqb2 : q = f.b[k] := by rw [hqb]; simp only [hkk]
      have x6 : ∀ o : Obj, (v2.alloc o).cell? ⟨X, 6, none⟩ = some (.slice V k c) := fun o => cell_of_row _ _ _ _ _ _ ((Below.heap_alloc _ _ _ (Array.getElem?_eq_some_iff.1 HI3.out.out).1).trans HI3.out.out)
      have x6b : v2.cell? ⟨X, 6, none⟩ = some (.slice V k c) := cell_of_row _ _ _ _ _ _ HI3.out.out
      have hrow := HI3.out.row
      have hkb : k ≤ 4000 := by have := hplen.out; have := hN.out; omega
      have hwX := HI3.out.but.size
      replace hrow := Hd hrow
      replace hqb := Hd hqb
      replace hqb2 := Hd hqb2
      replace hkk := Hd hkk
      replace hik := Hd hik
      go_wp2_with (at_builtin; refine wpList_append_lies _ rfl (.tmp 42) (.tmp 44) 23 rfl w.heap.size 9 i1s _ 1 16 Tryz.underlying23 hi q1 q2 q3 rfl (by decide) (.slice V k c) k (cellsO (f.b.take k)) rfl (World.ownsRow.alloc (by have := hrow.out; unfold OwnO at this; rw [List.length_take, Nat.min_eq_left (by omega)] at this; exact this) _) ⟨v2.heap.size, 0, none⟩ 1 1 [.string (baO q)] rfl rfl (World.news_of_block (cs := #[.string (baO q)]) (fr := (0, 0)) (heap_alloc_new v2 _)) (by intro u hu; rw [List.mem_singleton.1 hu]; rfl) (by decide) (by simp only [maxLen]; omega) (by omega) (by simp; omega) _ rfl ?hgo)
      case hgo =>
       intro g cap w6 hown hg hat6 hgl
       rw [hqb2.out] at hown
       obtain ⟨HS6, c6, f6⟩ := rp_between HI3.out hk hik.out hown hg
       replace HS6 := Hd HS6
       replace hown := Hd hown
       replace hg := Hd hg
       clear hat6
       go_wp2_with fail
       go_roundw
       case rel => exact ⟨i + 1, k + 1, ai, zi, some ⟨g, 0, none⟩, cap, by omega, by go_num, HS6⟩
       case measure => simp [RowKit.intOf]; omega
    · have x5 : v2.cell? ⟨X, 5, none⟩ = some (.string (baO zi)) := cell_of_row _ _ _ _ _ _ HI3.out.out
      have xf := free7 HI3.out.out 5
      have HS : Hid (RpI f X w (v2.setCell ⟨X, 5, none⟩ (.string (baO q))) (i + 1) k ai q V c) := Hd (by rw [hqz]; exact rp_last HI3.out hil)
      have hzne : f.z ≠ [] := by rw [← hqz]; exact hq2
      replace hqz := Hd hqz
      have hlast : ((i : Int) == (N : Int) - 1) = true := by
       have h1 := hplen.out
       have h2 := hN.out
       rw [if_neg hzne] at h1
       simp
       omega
      have hl2 : (i : Int) = (N : Int) - 1 := by simpa using hlast
      replace hl2 := Hd hl2
      replace hil := Hd hil
      go_wp2_with fail
      refine (CD.out _).mono ?_
      rintro _ w4 ⟨rfl, h4⟩
      subst w4
      dsimp only []
      go_wp2_with fail
      go_roundw
      case rel => exact ⟨i + 1, k, ai, q, V, c, by omega, by go_num, HS⟩
      case measure => simp [RowKit.intOf]; omega
  · have hiN : i = N := by omega
    have i1 : ¬ ((i : Int) < (N : Int)) := by omega
    have FIN := Hd (show ∃ Ab cb, wr.heap[X]? = some (.cells #[.int .i64 4, .slice none 0 0, .string (baO f.t), .string ⟨#[]⟩, .string (baO f.a), .string (baO f.z), .slice Ab f.b.length cb] 25 (0, 0)) ∧ SrcS wr (New w.heap.size wr) Ab cb f.b ∧ But X w wr from by
     have h1 := hplen.out
     have h2 := hN.out
     have hk := HI.out.hk
     have ha := HI.out.ha
     have hz := HI.out.hz
     have hkl : k = f.b.length := by omega
     have hav : ai = f.a := by
      rw [ha]
      split
      · have hn : naF f = 0 := by omega
        unfold naF at hn
        split at hn
        · rename_i e; rw [e]
        · cases hn
      · rfl
     have hzv : zi = f.z := by
      rw [hz]
      split
      · by_cases e : f.z = []
        · rw [e]
        · rw [if_neg e] at h1
          omega
      · rfl
     have ho := HI.out.out
     have hr := HI.out.row
     rw [hav, hzv, hkl] at ho
     rw [hkl, List.take_length] at hr
     exact ⟨V, c, ho, srcS_of_own hr rfl, HI.out.but⟩)
    go_wp2_with fail
    go_end0
    exact ⟨rfl, FIN.out⟩
end Go.Proofs.YtcbiedonmibfaaaGreatDoor
