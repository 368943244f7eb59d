/- Filters. -/
import Derived.Test.YtcbiedonmibfaaaGreatDoorF14v
import Derived.Test.YtcbiedonmibfaaaGreatDoorST
import Derived.Test.YtcbiedonmibfaaaGreatDoorF14h
import Derived.Test.YtcbiedonmibfaaaGreatDoorF14B
namespace Go.Proofs.YtcbiedonmibfaaaGreatDoor
open Go.RowKit
theorem info_listsF : (Tryz.prog.info? 91).map (fun i => (i.zero, i.size, i.bytes)) = some (some (.agg #[.slice none 0 0, .slice none 0 0]), 2, 48) := by kernel_rfl
abbrev KeyG := Nat × Nat × Nat
abbrev TwinG := (KeyG × KeyG) × Gl
abbrev lvF (p : KeyG) (c : Nat) : Value := .slice (some ⟨p.1, p.2.1, none⟩) p.2.2 c
def rowG (P : List TwinG) (cs : List Value) : Prop := cs.length = P.length * 2 ∧ ∀ (i : Nat) (hi : i < P.length), ∃ c d, P[i].1.1.2.2 ≤ c ∧ c ≤ 9223372036854775807 ∧ P[i].1.2.2.2 ≤ d ∧ d ≤ 9223372036854775807 ∧ cs[i * 2]? = some (lvF P[i].1.1 c) ∧ cs[i * 2 + 1]? = some (lvF P[i].1.2 d)
def OwnG (w : World) (base : Nat) (v : Value) (P : List TwinG) : Prop := ∃ cs, w.ownsRow base 91 2 v P.length cs ∧ rowG P cs
theorem OwnG.keep {w w' : World} {base : Nat} {v : Value} {P : List TwinG} (h : OwnG w base v P) (hb : ∀ b, Cl w b → w'.heap[b]? = w.heap[b]?) : OwnG w' base v P := by
 obtain ⟨cs, ⟨h1, h0 | ⟨g, cap, cur, hv, hbs, hg, hn, hm, hs, hx⟩⟩, h2⟩ := h
 · exact ⟨cs, ⟨h1, .inl h0⟩, h2⟩
 · exact ⟨cs, ⟨h1, .inr ⟨g, cap, cur, hv, hbs, (hb g ⟨_, _, hg⟩).trans hg, hn, hm, hs, hx⟩⟩, h2⟩
theorem OwnG.form {w : World} {base : Nat} {v : Value} {P : List TwinG} (h : OwnG w base v P) : ∃ A c, v = .slice A P.length c ∧ (0 < P.length → ∃ g, A = some ⟨g, 0, none⟩ ∧ base ≤ g ∧ Cl w g ∧ P.length ≤ c ∧ c ≤ 9223372036854775807 ∧
 ∀ (i : Nat) (hi : i < P.length), ∃ c d, P[i].1.1.2.2 ≤ c ∧ c ≤ 9223372036854775807 ∧ P[i].1.2.2.2 ≤ d ∧ d ≤ 9223372036854775807 ∧ w.cell? ⟨g, i * 2, none⟩ = some (lvF P[i].1.1 c) ∧ w.cell? ⟨g, i * 2 + 1, none⟩ = some (lvF P[i].1.2 d)) := by
 obtain ⟨cs, ⟨hl, h0 | ⟨g, cap, cur, hv, hbs, hg, hn, hm, hs, hx⟩⟩, h2, h3⟩ := h
 · exact ⟨none, 0, by rw [h0.1, h0.2], fun h => by omega⟩
 · refine ⟨_, cap, hv, fun h => ⟨g, rfl, hbs, ⟨_, _, hg⟩, hn, by unfold maxLen at hm; exact hm, fun i hi => ?_⟩⟩
   obtain ⟨c, d, e1, e2, e3, e4, e5, e6⟩ := h3 i hi
   refine ⟨c, d, e1, e2, e3, e4, ?_, ?_⟩
   · rw [cell_of_row w g (i * 2) cur _ _ hg, ← e5, ← hx, List.getElem?_take, if_pos (by omega)]
     simp
   · rw [cell_of_row w g (i * 2 + 1) cur _ _ hg, ← e6, ← hx, List.getElem?_take, if_pos (by omega)]
     simp
theorem OwnG.pop {w : World} {base : Nat} {A : Option Addr} {n c : Nat} {P : List TwinG} {x : TwinG} (h : OwnG w base (.slice A n c) (P ++ [x])) : OwnG w base (.slice A P.length c) P := by
 obtain ⟨cs, ⟨hl, h0 | ⟨g, cap, cur, hv, hbs, hg, hn, hm, hs, hx⟩⟩, h2, h3⟩ := h
 · have := h0.2
   simp at this
 · injection hv with hv1 hv2 hv3
   subst hv1 hv3
   rw [List.length_append, List.length_singleton] at hl hn hx h2
   refine ⟨cs.take (P.length * 2), ⟨?_, .inr ⟨g, c, cur, rfl, hbs, hg, by omega, hm, hs, ?_⟩⟩, ?_, fun i hi => ?_⟩
   · rw [List.length_take]
     omega
   · rw [← hx, List.take_take]
     congr 1
     omega
   · rw [List.length_take]
     omega
   · obtain ⟨a, b, e1, e2, e3, e4, e5, e6⟩ := h3 i (by simp; omega)
     have hp : (P ++ [x])[i]'(by simp; omega) = P[i] := List.getElem_append_left hi
     rw [hp] at e1 e3 e5 e6
     refine ⟨a, b, e1, e2, e3, e4, ?_, ?_⟩
     · rw [List.getElem?_take, if_pos (by omega)]
       exact e5
     · rw [List.getElem?_take, if_pos (by omega)]
       exact e6
theorem rowG.snoc {P : List TwinG} {cs : List Value} (h : rowG P cs) {p q : KeyG} {k : Gl} {c d : Nat} (hc : p.2.2 ≤ c) (hc9 : c ≤ 9223372036854775807) (hd : q.2.2 ≤ d) (hd9 : d ≤ 9223372036854775807) : rowG (P ++ [((p, q), k)]) (cs ++ [lvF p c, lvF q d]) := by
 refine ⟨by simp [h.1]; omega, fun i hi => ?_⟩
 by_cases hil : i < P.length
 · obtain ⟨a, b, e1, e2, e3, e4, e5, e6⟩ := h.2 i hil
   rw [List.getElem_append_left hil]
   refine ⟨a, b, e1, e2, e3, e4, ?_, ?_⟩
   · rw [List.getElem?_append_left (by rw [h.1]; omega)]; exact e5
   · rw [List.getElem?_append_left (by rw [h.1]; omega)]; exact e6
 · have hie : i = P.length := by simp at hi; omega
   subst hie
   have hp : (P ++ [((p, q), k)])[P.length]'(by simp) = ((p, q), k) := by simp
   rw [hp]
   refine ⟨c, d, hc, hc9, hd, hd9, ?_, ?_⟩
   · rw [List.getElem?_append_right (by rw [h.1]; exact Nat.le_refl _), h.1]
     simp
   · rw [List.getElem?_append_right (by rw [h.1]; omega), h.1]
     simp
def kzF (l : List Ft) : Nat := sumL (l.map fun x => x.g.num)
theorem kzF_len : ∀ l : List Ft, kzF l + l.length = sumL (l.map Ft.num)
 | [] => rfl
 | x :: l => by
   have := kzF_len l
   unfold kzF at this ⊢
   rw [List.map_cons, List.map_cons, sumL_cons, sumL_cons, List.length_cons, Ft.num]
   omega
theorem kzF_num (g : Gl) : kzF g.list + g.list.length = g.num := by rw [kzF_len, num_list]
theorem kzF_take (l : List Ft) (j : Nat) (h : j < l.length) : kzF (l.take (j + 1)) = kzF (l.take j) + l[j].g.num := by
 unfold kzF
 rw [List.take_succ_eq_append_getElem h, List.map_append, List.map_singleton, sumL_snoc]
theorem kzF_mono : ∀ (l : List Ft) (j : Nat), kzF (l.take j) ≤ kzF l
 | [], j => by simp
 | x :: l, 0 => by simp [kzF, sumL]
 | x :: l, j + 1 => by
   have := kzF_mono l j
   unfold kzF at this ⊢
   rw [List.take_succ_cons, List.map_cons, List.map_cons, sumL_cons, sumL_cons]
   omega
theorem GlFz.clean {w : World} {lo : Nat} : ∀ {g : Gl} {bl off : Nat}, GlAt w (New lo w) g bl off → GlFz w g bl off
 | .nil, _, _, _ => trivial
 | .cons k g t v a z b nx, bl, off, ha => by
   obtain ⟨_, ⟨A, cq, h2, _, _, _, h6⟩, _, _, _, _, _, hn⟩ := ha
   refine ⟨fun ad cp hc h0 => ?_, GlFz.clean hn⟩
   rw [h2] at hc
   injection hc with hc
   injection hc with hA _ hcp
   subst hA hcp
   obtain ⟨a1, a2, a3⟩ := h6 ad rfl h0
   obtain ⟨b0, o0, s0⟩ := ad
   obtain ⟨cs, T, hh⟩ := a2.2
   have : s0 = none := a1
   subst this
   exact ⟨free7 hh o0, GlFz.clean a3⟩
theorem FtFz.clean {w : World} {lo : Nat} {f : Ft} {Ak Ab : Option Addr} {ck cb : Nat} (h : FtIn w (New lo w) f Ak ck Ab cb) : FtFz w f Ak := by
 intro ad e h0
 obtain ⟨a1, a2, a3⟩ := h.g.at_ ad e h0
 obtain ⟨b0, o0, s0⟩ := ad
 obtain ⟨cs, T, hh⟩ := a2.2
 have : s0 = none := a1
 subst this
 exact ⟨free7 hh o0, GlFz.clean a3⟩
structure LsG (w : World) (p : KeyG) (g : Gl) : Prop where
 at_ : GlAt w (· < w.heap.size) g p.1 p.2.1
 lt : p.1 < w.heap.size
 fz : w.frozen? ⟨p.1, p.2.1, none⟩ = false
 in_ : GlFz w g p.1 p.2.1
 len : g.list.length = p.2.2
 pos : 0 < p.2.2
theorem LsG.ok {w : World} {p : KeyG} {g : Gl} (h : LsG w p g) : OkA w (p.1, p.2.1) := by
 obtain ⟨Ak, ck, Ab, cb, h1, _⟩ := h.at_.get 0 (by rw [h.len]; exact h.pos)
 refine ⟨?_, h.fz⟩
 have := h1.k
 rw [Nat.zero_mul, Nat.add_zero] at this
 unfold World.cell? at this
 dsimp only at this
 split at this
 · rename_i cs T fr e
   exact ⟨cs, T, fr, e⟩
 · cases this
theorem LsG.elem {w : World} {p : KeyG} {g : Gl} (h : LsG w p g) (j : Nat) (hj : j < g.list.length) : ∃ Ak ck Ab cb, FtAt w g.list[j] p.1 (p.2.1 + j * 7) Ak ck Ab cb ∧ FtIn w (· < w.heap.size) g.list[j] Ak ck Ab cb ∧
 (0 < g.list[j].kids.length → ∃ b o, Ak = some ⟨b, o, none⟩ ∧ LsG w (b, o, g.list[j].kids.length) g.list[j].g) := by
 obtain ⟨Ak, ck, Ab, cb, h1, h2⟩ := h.at_.get j hj
 refine ⟨Ak, ck, Ab, cb, h1, h2, fun h0 => ?_⟩
 rcases Ak with _ | ⟨b, o, spot⟩
 · have := h2.g.nil rfl
   have h3 := h2.g.le
   have h4 : 0 < g.list[j].g.list.length := h0
   omega
 · obtain ⟨a1, a2, a3⟩ := h2.g.at_ _ rfl h0
   have : spot = none := a1
   subst this
   obtain ⟨f1, f2⟩ := h.in_.get j hj _ _ h1.g _ rfl h0
   exact ⟨b, o, rfl, a3, a2, f1, f2, rfl, h0⟩
theorem root_ls {w W : World} {f : Ft} {Ak Ab : Option Addr} {ck cb b : Nat} (hin : FtIn w (· < w.heap.size) f Ak ck Ab cb) (hz : FtFz w f Ak) (hb : Below w.heap.size w W) (hX : W.heap[b]? = some (.cells #[.int .i64 f.k, .slice Ak f.kids.length ck, .string (baO f.t), .string (baO f.v), .string (baO f.a), .string (baO f.z), .slice Ab f.b.length cb] 25 (0, 0))) :
 LsG W (b, 0, 1) (Gl.of [f]) := by
 have hlt : b < W.heap.size := (Array.getElem?_eq_some_iff.1 hX).1
 obtain ⟨x0, x1, x2, x3, x4, x5, x6⟩ := cells7 hX
 have hin2 : FtIn W (· < W.heap.size) f Ak ck Ab cb := (hin.below hb).more fun _ h => Nat.lt_of_lt_of_le h hb.size
 refine ⟨glAt_ofR [f] b 0 fun i hi => ?_, hlt, free7 hX 0, ⟨fun ad cp hc h0 => ?_, trivial⟩, by rw [Gl.list_of]; rfl, Nat.one_pos⟩
 · have hi0 : i = 0 := by simpa using hi
   subst hi0
   exact ⟨Ak, ck, Ab, cb, ⟨x0, x1, x2, x3, x4, x5, x6⟩, hin2⟩
 · have hc2 : W.cell? ⟨b, 1, none⟩ = some (.slice (some ad) f.g.list.length cp) := by simpa using hc
   rw [x1] at hc2
   injection hc2 with hc2
   injection hc2 with hA _ _
   exact hz.below hin hb ad hA h0
def szG (P : List TwinG) : Nat := sumL (P.map fun x => x.2.num)
theorem szG_snoc (P : List TwinG) (x : TwinG) : szG (P ++ [x]) = szG P + x.2.num := by
 unfold szG
 rw [List.map_append, List.map_singleton, sumL_snoc]
theorem MapF.at_ {Q : Value → Prop} {w w' : World} {b : Nat} (h : MapF Q w b) (e : w'.heap[b]? = w.heap[b]?) : MapF Q w' b := by
 obtain ⟨es, clock, h1, h2⟩ := h
 exact ⟨es, clock, e.trans h1, h2⟩
theorem KeyF.grown {W0 wr : World} {mb : Nat} (hg : W0.grownBy wr (some mb)) (hm : ∃ es c, W0.heap[mb]? = some (.map es c)) (v : Value) (h : KeyF W0 v) : KeyF wr v := by
 refine KeyF.of h fun i cs T fr hi => hg.block i (Array.getElem?_eq_some_iff.1 hi).1 fun e => ?_
 injection e with e
 subst e
 obtain ⟨es, c, h2⟩ := hm
 rw [hi] at h2
 cases h2
theorem cl_not_mapG {w : World} {b mb : Nat} (h : Cl w b) (hm : ∃ es c, w.heap[mb]? = some (.map es c)) : b ≠ mb := by
 rintro rfl
 obtain ⟨es, c, hm⟩ := hm
 obtain ⟨cs, T, h⟩ := h
 rw [hm] at h
 cases h
theorem grown_clG {w w' : World} {mb b : Nat} (hg : w.grownBy w' (some mb)) (hm : ∃ es c, w.heap[mb]? = some (.map es c)) (h : Cl w b) : w'.heap[b]? = w.heap[b]? :=
 hg.block b h.lt fun e => cl_not_mapG h hm (by injection e)
theorem grown_belowG {w wr w3 : World} {mb : Nat} (h : w.grownBy wr (some mb)) (hb : Below wr.heap.size wr w3) : w.grownBy w3 (some mb) :=
 ⟨hb.os.trans h.os, hb.tape.trans h.tape, hb.output.trans h.output, Nat.le_trans h.size hb.size, fun i hi hne => (hb.block i (Nat.lt_of_lt_of_le hi h.size)).trans (h.block i hi hne)⟩
theorem grown_transG {w wr w3 : World} {mb : Nat} (h : w.grownBy wr (some mb)) (hb : wr.grownBy w3 (some mb)) : w.grownBy w3 (some mb) :=
 ⟨hb.os.trans h.os, hb.tape.trans h.tape, hb.output.trans h.output, Nat.le_trans h.size hb.size, fun i hi hne => (hb.block i (Nat.lt_of_lt_of_le hi h.size) hne).trans (h.block i hi hne)⟩
structure SRelG (W0 wr : World) (mb : Nat) (V : Value) (P : List TwinG) (S : Nat) : Prop where
 grown : W0.grownBy wr (some mb)
 map : MapF (KeyF W0) wr mb
 own : OwnG wr W0.heap.size V P
 lst : ∀ x ∈ P, LsG W0 x.1.1 x.2 ∧ LsG W0 x.1.2 x.2
 sz : szG P ≤ S
theorem SRelG.weaken {W0 wr : World} {mb : Nat} {V : Value} {P : List TwinG} {S S' : Nat} (h : SRelG W0 wr mb V P S) (hS : S ≤ S') : SRelG W0 wr mb V P S' := ⟨h.grown, h.map, h.own, h.lst, Nat.le_trans h.sz hS⟩
theorem SRelG.isMap {W0 wr : World} {mb : Nat} {V : Value} {P : List TwinG} {S : Nat} (h : SRelG W0 wr mb V P S) : ∃ es c, wr.heap[mb]? = some (.map es c) := by
 obtain ⟨es, c, h1, _⟩ := h.map
 exact ⟨es, c, h1⟩
theorem SRelG.move {W0 wr w' : World} {mb : Nat} {V : Value} {P : List TwinG} {S : Nat} (h : SRelG W0 wr mb V P S) (hb : Below wr.heap.size wr w') : SRelG W0 w' mb V P S := by
 have hm : mb < wr.heap.size := by
  obtain ⟨es, c, h⟩ := h.isMap
  exact (Array.getElem?_eq_some_iff.1 h).1
 exact ⟨grown_belowG h.grown hb, h.map.at_ (hb.block _ hm), h.own.keep fun b hc => hb.block b hc.lt, h.lst, h.sz⟩
theorem SRelG.turn {W0 wr w4 : World} {mb : Nat} {V : Value} {P : List TwinG} {S : Nat} (h : SRelG W0 wr mb V P S) (hm : MapF (KeyF W0) w4 mb) (hg : wr.grownBy w4 (some mb)) : SRelG W0 w4 mb V P S :=
 ⟨grown_transG h.grown hg, hm, h.own.keep fun _ hc => grown_clG hg h.isMap hc, h.lst, h.sz⟩
theorem SRelG.push {W0 w4 w6 : World} {mb : Nat} {V : Value} {P : List TwinG} {S g cap c d : Nat} {p q : KeyG} {k : Gl} {cs : List Value} {o : Obj} (h : SRelG W0 w4 mb V P S) (hmap0 : ∃ es c, W0.heap[mb]? = some (.map es c)) (hcs : rowG P cs) (hl1 : LsG W0 p k) (hl2 : LsG W0 q k)
 (hc : p.2.2 ≤ c) (hc9 : c ≤ 9223372036854775807) (hd : q.2.2 ≤ d) (hd9 : d ≤ 9223372036854775807) (hown : w6.ownsRow W0.heap.size 91 2 (.slice (some ⟨g, 0, none⟩) (P.length + 1) cap) (P.length + 1) (cs ++ [lvF p c, lvF q d]))
 (hg6 : (w4.alloc o).grownBy w6 V.ownBlock) (hV : ∀ b, V.ownBlock = some b → W0.heap.size ≤ b) : SRelG W0 w6 mb (.slice (some ⟨g, 0, none⟩) (P.length + 1) cap) (P ++ [((p, q), k)]) (S + k.num) := by
 have hmb : mb < W0.heap.size := by
  obtain ⟨es, c, h⟩ := hmap0
  exact (Array.getElem?_eq_some_iff.1 h).1
 have hw4 := h.grown
 have h4 := hw4.size
 have hw6 : W0.grownBy w6 (some mb) := by
  refine ⟨hg6.os.trans hw4.os, hg6.tape.trans hw4.tape, hg6.output.trans hw4.output, Nat.le_trans hw4.size (Nat.le_trans (by simp) hg6.size), fun i hi hne => ?_⟩
  rw [hg6.block i (by simp; omega) (fun e => by have := hV i e.symm; omega), Below.heap_alloc _ _ _ (by omega)]
  exact hw4.block i hi hne
 have hmblk : w6.heap[mb]? = w4.heap[mb]? := by
  rw [hg6.block mb (by simp; omega) (fun e => by have := hV mb e.symm; omega), Below.heap_alloc _ _ _ (by omega)]
 refine ⟨hw6, h.map.at_ hmblk, ⟨cs ++ [lvF p c, lvF q d], by rw [List.length_append]; exact hown, hcs.snoc hc hc9 hd hd9⟩, fun x hx => ?_, ?_⟩
 · rcases List.mem_append.1 hx with hx | hx
   · exact h.lst x hx
   · simp only [List.mem_singleton] at hx
     subst hx
     exact ⟨hl1, hl2⟩
 · rw [szG_snoc]
   have := h.sz
   simp only
   omega
theorem szG_len (w : World) : ∀ (P : List TwinG), (∀ x ∈ P, LsG w x.1.1 x.2) → P.length ≤ szG P
 | [], _ => Nat.zero_le _
 | x :: P, h => by
   have h1 := szG_len w P fun y hy => h y (List.mem_cons_of_mem _ hy)
   have h2 := kzF_num x.2
   have h3 := h x (List.mem_cons_self ..)
   have h4 := h3.len
   have h5 := h3.pos
   unfold szG at h1 ⊢
   rw [List.map_cons, sumL_cons, List.length_cons]
   omega
end Go.Proofs.YtcbiedonmibfaaaGreatDoor
