/- Filters. -/
import Derived.Test.YtcbiedonmibfaaaGreatDoorF14h
import Derived.Test.YtcbiedonmibfaaaGreatDoorF14s
import Derived.Test.YtcbiedonmibfaaaGreatDoorFH
import Derived.Defers
import Derived.Recover
set_option maxRecDepth 8000
set_option maxHeartbeats 1600000
namespace Go.Proofs.YtcbiedonmibfaaaGreatDoor
open Go.RowKit Go.Lib
theorem deep_mem : ∀ (g : Gl) (x : Ft), x ∈ g.list → x.deep ≤ g.deep
 | .nil, x, h => by cases h
 | .cons k g t v a z b nx, x, h => by
   rw [Gl.list] at h
   rw [Gl.deep]
   rcases List.mem_cons.1 h with rfl | h
   · exact Nat.le_max_left _ _
   · exact Nat.le_trans (deep_mem nx x h) (Nat.le_max_right _ _)
theorem num_list : ∀ g : Gl, g.num = sumL (g.list.map Ft.num)
 | .nil => rfl
 | .cons k g t v a z b nx => by
   rw [Gl.num, Gl.list, List.map_cons, sumL_cons, ← num_list nx]
   rfl
def Fits (d : Nat) (n : Nat) (l : Int) (dp : Nat) : Prop := d + dp ≤ 11 ∧ (n : Int) ≤ l
instance (d n : Nat) (l : Int) (dp : Nat) : Decidable (Fits d n l dp) := by unfold Fits; infer_instance
structure PfP (f : Ft) (r : List Nat) (d : Nat) (l : Int) (p : Nat) (w : World) (en : Ending) (w' : World) : Prop where
 ok : Fits d f.num l f.deep → ∃ Ak ck Ab cb, en = .returned (ftV f Ak ck Ab cb) ∧ FtIn w' (New w.heap.size w') f Ak ck Ab cb ∧ PAt w' p r (l - f.num)
 no : ¬ Fits d f.num l f.deep → en = bad14
 but : But p w w'
structure PiP (f : Ft) (r : List Nat) (d : Nat) (l : Int) (p : Nat) (w : World) (en : Ending) (w' : World) : Prop where
 ok : Fits d f.num (l + 1) f.deep → ∃ Ak ck Ab cb, en = .returned (ftV f Ak ck Ab cb) ∧ FtIn w' (New w.heap.size w') f Ak ck Ab cb ∧ PAt w' p (41 :: r) (l + 1 - f.num)
 no : ¬ Fits d f.num (l + 1) f.deep → en = bad14
 but : But p w w'
structure PlP (g : Gl) (r : List Nat) (d : Nat) (l : Int) (p : Nat) (w : World) (en : Ending) (w' : World) : Prop where
 ok : ((∀ x ∈ g.list, d + x.deep ≤ 11) ∧ (g.num : Int) ≤ l) → ∃ A c, en = .returned (.slice A g.list.length c) ∧ SlG w' (New w.heap.size w') A c g ∧ PAt w' p (41 :: r) (l - g.num)
 no : ¬ ((∀ x ∈ g.list, d + x.deep ≤ 11) ∧ (g.num : Int) ≤ l) → en = bad14
 but : But p w w'
theorem text_by : ∀ g : Gl, g.all = true → byE g.text
 | .nil, _ => fun c hc => by cases hc
 | .cons k g t v a z b nx, h => by
   rw [Gl.all, Bool.and_eq_true, Bool.and_eq_true] at h
   obtain ⟨⟨h1, h2⟩, h3⟩ := h
   intro c hc
   rw [Gl.text] at hc
   rcases List.mem_cons.1 hc with hc | hc
   · omega
   · rcases List.mem_append.1 hc with hc | hc
     · split at hc
       · rcases List.mem_cons.1 hc with hc | hc
         · unfold sgn at hc
           split at hc
           · omega
           · split at hc <;> omega
         · exact text_by g h2 c hc
       · rename_i hk
         exact (leaf_plain (leaf_ok h1 hk) c hc).2.2
     · rcases List.mem_cons.1 hc with hc | hc
       · omega
       · exact text_by nx h3 c hc
theorem ft_text_by {f : Ft} (h : f.all = true) : byE f.text := by
 rw [ft_text]
 refine text_by _ ?_
 unfold Ft.all at h
 rw [Gl.all, Gl.all, Bool.and_true]
 exact h
theorem body_by {f : Ft} (h : f.all = true) : byE f.body := fun c hc => ft_text_by h c (by unfold Ft.text; simp [hc])
end Go.Proofs.YtcbiedonmibfaaaGreatDoor
namespace Go.Proofs.YtcbiedonmibfaaaGreatDoor
open Go.RowKit Go.Lib
def sumN (L : List Ft) : Nat := sumL (L.map Ft.num)
theorem sumN_snoc (L : List Ft) (x : Ft) : sumN (L ++ [x]) = sumN L + x.num := by
 unfold sumN
 rw [List.map_append, sumL_app, List.map_cons, List.map_nil, sumL_cons]
 rfl
theorem sumN_app (L M : List Ft) : sumN (L ++ M) = sumN L + sumN M := by
 unfold sumN
 rw [List.map_append, sumL_app]
theorem meas_num (f : Ft) : 1 ≤ f.num := by unfold Ft.num; omega
theorem len_sumN (L : List Ft) : L.length ≤ sumN L := by
 induction L with
 | nil => exact Nat.zero_le _
 | cons x L ih =>
   unfold sumN at ih ⊢
   rw [List.map_cons, sumL_cons, List.length_cons]
   have := meas_num x
   omega
theorem owns_but {p : Nat} {w w' : World} {base : Nat} {T : TypeId} {z : Nat} {v : Value} {n : Nat} {xs : List Value} (h : w.ownsRow base T z v n xs) (hb : But p w w') (hp : p < base) : w'.ownsRow base T z v n xs := by
 obtain ⟨hl, h0 | ⟨g, cap, cur, hv, hbs, hg, r⟩⟩ := h
 · exact ⟨hl, .inl h0⟩
 · exact ⟨hl, .inr ⟨g, cap, cur, hv, hbs, (hb.block g (Array.getElem?_eq_some_iff.1 hg).1 (by omega)).trans hg, r⟩⟩
structure PlI (d : Nat) (l : Int) (r : List Nat) (p : Nat) (w wr : World) (L1 L2 : List Ft) (V : Value) : Prop where
 but : But p w wr
 at_ : PAt wr p (L2.flatMap Ft.text ++ 41 :: r) (l - sumN L1)
 row : RowF 25 wr w.heap.size V L1
 deep : ∀ x ∈ L1, d + x.deep ≤ 11
 num : (sumN L1 : Int) ≤ l
theorem pl_step {d : Nat} {l : Int} {r : List Nat} {p : Nat} {w wr w3 w6 : World} {L1 L2 : List Ft} {x : Ft} {A : Option Addr} {c g cap : Nat} {Ak Ab : Option Addr} {ck cb : Nat} {o : Obj} {cs : List Value}
 (h : PlI d l r p w wr L1 (x :: L2) (.slice A L1.length c)) (hp : p < w.heap.size) (hb : But p wr w3) (hx : d + x.deep ≤ 11) (hn : (x.num : Int) ≤ l - sumN L1) (hin : FtIn w3 (New wr.heap.size w3) x Ak ck Ab cb)
 (hat3 : PAt w3 p (L2.flatMap Ft.text ++ 41 :: r) (l - sumN L1 - x.num)) (hcs : cs.length = L1.length * 7) (hV : ∀ b, (Value.slice A L1.length c).ownBlock = some b → w.heap.size ≤ b ∧ b < wr.heap.size)
 (hrow : ∀ (i : Nat) (hi : i < L1.length), ∃ Ak ck Ab cb, (∀ j, j < 7 → cs[i * 7 + j]? = (ft7 L1[i] Ak ck Ab cb)[j]?) ∧ FtIn wr (RowC wr w.heap.size (.slice A L1.length c)) L1[i] Ak ck Ab cb)
 (hown : w6.ownsRow w.heap.size 25 7 (.slice (some ⟨g, 0, none⟩) (L1.length + 1) cap) (L1.length + 1) (cs ++ ft7 x Ak ck Ab cb)) (hg : (w3.alloc o).grownBy w6 (Value.slice A L1.length c).ownBlock)
 (hat : (Value.slice A L1.length c).ownBlock = some g ∨ g = (w3.alloc o).heap.size) :
 PlI d l r p w w6 (L1 ++ [x]) L2 (.slice (some ⟨g, 0, none⟩) (L1.length + 1) cap) := by
 have hs3 := hb.size
 have hs6 := hg.size
 have hsr := h.but.size
 have hsa : (w3.alloc o).heap.size = w3.heap.size + 1 := by simp
 have hp6 : ∀ j, j < w.heap.size → w6.heap[j]? = w3.heap[j]? := fun j hj => by
  rw [hg.block j (by omega) (fun e => by have := hV j e.symm; omega), Below.heap_alloc _ _ _ (by omega)]
 have hal : But p w3 (w3.alloc o) := But.of ((Below.refl _ _).alloc (Nat.le_refl _) _)
 refine ⟨?_, ?_, ?_, ?_, ?_⟩
 · refine ⟨hg.os.trans (hb.os.trans h.but.os), hg.tape.trans (hb.tape.trans h.but.tape), hg.output.trans (hb.output.trans h.but.output), by omega, fun b hb1 hb2 => ?_⟩
   rw [hp6 b hb1, hb.block b (by omega) hb2, h.but.block b hb1 hb2]
 · have e : (l - sumN (L1 ++ [x])) = l - sumN L1 - x.num := by rw [sumN_snoc]; omega
   rw [e]
   exact (hp6 p hp).trans hat3
 · have hrow3 : ∀ (i : Nat) (hi : i < L1.length), ∃ Ak ck Ab cb, (∀ j, j < 7 → cs[i * 7 + j]? = (ft7 L1[i] Ak ck Ab cb)[j]?) ∧ FtIn (w3.alloc o) (RowC (w3.alloc o) w.heap.size (.slice A L1.length c)) L1[i] Ak ck Ab cb := by
    intro i hi
    obtain ⟨a1, a2, a3, a4, a5, a6⟩ := hrow i hi
    have hbb := hb.trans hal
    exact ⟨a1, a2, a3, a4, a5, (a6.keep fun q hq => hbb.cell hq.2.1.lt (by have := hq.1; omega)).more fun b hb2 => ⟨hb2.1, hbb.cl hb2.2.1 (by have := hb2.1; omega), hb2.2.2⟩⟩
   have hel : FtIn (w3.alloc o) (RowC (w3.alloc o) w.heap.size (.slice A L1.length c)) x Ak ck Ab cb := by
    refine (hin.keep fun q hq => World.cell?_alloc_lt _ _ _ hq.2.lt).more fun b hb2 => ⟨by have := hb2.1; omega, hb2.2.alloc _, fun e => ?_⟩
    have := (hV b e.symm).2
    have := hb2.1
    omega
   have hsn := RowF.snoc (T := 25) (w := w3.alloc o) (w' := w6) (base := w.heap.size) (g := g) (cap := cap) (v := .slice A L1.length c) (l := L1) (e := x) (Ak := Ak) (ck := ck) (Ab := Ab) (cb := cb) (cs := cs) hown hcs hrow3 hel hg hat
   exact hsn
 · intro y hy
   rcases List.mem_append.1 hy with hy | hy
   · exact h.deep y hy
   · rw [List.mem_singleton.1 hy]; exact hx
 · rw [sumN_snoc]
   omega
theorem filters_any (g : Gl) (d : Nat) (l : Int) (hl0 : 0 ≤ l) (hl : l ≤ 64) (p : Nat) (r : List Nat) (w : World) (hg : g.all = true) (hr : byE r) (hlen : g.text.length + r.length ≤ 4095) (hp : PAt w p (g.text ++ 41 :: r) l)
 (ih : ∀ x ∈ g.list, ∀ (l' : Int) (r' : List Nat) (W : World), 0 ≤ l' → l' ≤ 64 → PAt W p (x.text ++ r') l' → byE r' → x.text.length + r'.length ≤ 4096 → Calls Tryz.prog 30 #[.pointer (some ⟨p, 0, none⟩), .int .i64 (d : Int)] W (PfP x r' d l' p W)) :
 Calls Tryz.prog 111 #[.pointer (some ⟨p, 0, none⟩), .int .i64 (d : Int)] w (PlP g r d l p w) := by
 obtain ⟨i0, hi, q1, q2, q3⟩ := info_parts info_ft
 have hpl := hp.lt
 have hbt : ∀ L : List Ft, (∀ x ∈ L, x ∈ g.list) → byE (L.flatMap Ft.text ++ 41 :: r) := fun L hL c hc => by
  rcases List.mem_append.1 hc with hc | hc
  · obtain ⟨x, hx, hc⟩ := List.mem_flatMap.1 hc
    have := hL x hx
    rw [Gl.all_list, List.all_eq_true] at hg
    exact ft_text_by (hg x this) c hc
  · rcases List.mem_cons.1 hc with hc | hc
    · omega
    · exact hr c hc
 have hstart : PlI d l r p w w [] g.list (.slice none 0 0) := ⟨But.refl _ _, by rw [← Gl.text_list]; simpa [sumN, sumL] using hp, RowF.nil _ _ _, (fun x hx => by cases hx), by simpa [sumN, sumL] using hl0⟩
 have htl : ∀ L : List Ft, ∀ L1, g.list = L1 ++ L → (L.flatMap Ft.text).length + r.length ≤ 4095 := fun L L1 e => by
  have := congrArg List.length (Gl.text_list g)
  rw [e, List.flatMap_append, List.length_append] at this
  omega
 have hfin : ∀ wr L1 A c, PlI d l r p w wr L1 [] (.slice A L1.length c) → L1 = g.list → PlP g r d l p w (.returned (.slice A L1.length c)) wr := fun wr L1 A c h e => by
  subst e
  have hnum : (sumN g.list) = g.num := (num_list g).symm
  obtain ⟨A', c', hv, hsl⟩ := h.row.sl
  injection hv with hv1 hv2 hv3
  subst hv1 hv3
  rw [Gl.of_list] at hsl
  refine ⟨fun _ => ⟨A, c, rfl, hsl, ?_⟩, fun hn => absurd ⟨h.deep, by rw [← hnum]; exact h.num⟩ hn, h.but⟩
  have := h.at_
  rw [hnum] at this
  exact this
 have hbad : ∀ wr L1 L2 x V W, PlI d l r p w wr L1 (x :: L2) V → g.list = L1 ++ x :: L2 → ¬ Fits d x.num (l - sumN L1) x.deep → But p wr W → PlP g r d l p w bad14 W := fun wr L1 L2 x V W h e hno hb => by
  refine ⟨fun hok => ?_, fun _ => rfl, ?_⟩
  · exfalso
    apply hno
    refine ⟨hok.1 x (by rw [e]; simp), ?_⟩
    have h2 := hok.2
    rw [num_list, e] at h2
    have h3 : sumL ((L1 ++ x :: L2).map Ft.num) = sumN L1 + (x.num + sumN L2) := by
     unfold sumN
     rw [List.map_append, sumL_app, List.map_cons, sumL_cons]
    rw [h3] at h2
    omega
  · have := h.but.size
    exact ⟨hb.os.trans h.but.os, hb.tape.trans h.but.tape, hb.output.trans h.but.output, Nat.le_trans this hb.size, fun b h1 h2 => (hb.block b (by omega) h2).trans (h.but.block b h1 h2)⟩
 replace hp := Hd hp
 replace hbt := Hd hbt
 replace hg := Hd hg
 replace hstart := Hd hstart
 replace htl := Hd htl
 replace hfin := Hd hfin
 replace hbad := Hd hbad
 replace ih := Hd ih
 replace hr := Hd hr
 go_enter Tryz.func111, Tryz.ntmps111
 go_wp2_with fail
 go_loopw [5] (fun bv wr => ∃ (L1 L2 : List Ft) (A : Option Addr) (c : Nat), bv = .slice A L1.length c ∧ Hid (g.list = L1 ++ L2) ∧ Hid (PlI d l r p w wr L1 L2 (.slice A L1.length c))) (fun bv _ => g.list.length - lenV bv)
 case atStart => exact ⟨[], g.list, none, 0, rfl, Hd rfl, hstart⟩
 case round =>
  obtain ⟨L1, L2, A, c, rfl, hL, HI⟩ := hrel
  obtain ⟨c0, c1, f0, f1⟩ := cells2 HI.out.at_
  have CH := Tryz.strings_HasPrefix (strB (L2.flatMap Ft.text ++ 41 :: r)) ⟨#[40]⟩ wr
  obtain ⟨sr, hsr⟩ : ∃ s, s = strB (L2.flatMap Ft.text ++ 41 :: r) := ⟨_, rfl⟩
  rw [← hsr] at c0
  rcases L2 with _ | ⟨x, L2⟩
  · have hF : Lib.hasPrefix (strB ([].flatMap Ft.text ++ 41 :: r)).data.toList (⟨#[40]⟩ : ByteArray).data.toList = false := by
     rw [strB_list]
     rfl
    rw [hF, ← hsr] at CH
    replace CH := Hd CH
    replace hsr := Hd hsr
    have HF := Hd (hfin.out wr L1 A c HI.out (by rw [hL.out, List.append_nil]))
    go_wp2_with fail
    refine CH.out.mono ?_
    rintro _ w2 ⟨rfl, h2⟩
    subst w2
    dsimp only []
    go_wp2_with fail
    go_ret
    exact HF.out
  · have hT : Lib.hasPrefix (strB ((x :: L2).flatMap Ft.text ++ 41 :: r)).data.toList (⟨#[40]⟩ : ByteArray).data.toList = true := by
     rw [strB_list]
     rfl
    rw [hT, ← hsr] at CH
    replace CH := Hd CH
    replace hsr := Hd hsr
    have hxm : x ∈ g.list := by rw [hL.out]; simp
    have hl1 := len_sumN L1
    have hn1 := HI.out.num
    have hat : PAt wr p (x.text ++ (L2.flatMap Ft.text ++ 41 :: r)) (l - sumN L1) := by
     have := HI.out.at_
     rw [List.flatMap_cons, List.append_assoc] at this
     exact this
    have hlen2 := htl.out (x :: L2) L1 hL.out
    rw [List.flatMap_cons, List.length_append] at hlen2
    have CF := Hd (ih.out x hxm (l - sumN L1) (L2.flatMap Ft.text ++ 41 :: r) wr (by omega) (by omega) hat (hbt.out L2 (fun y hy => by rw [hL.out]; simp [hy])) (by simp only [List.length_append, List.length_cons]; omega))
    obtain ⟨cs, hrow1, hrow2, hrow3, hrow4⟩ := HI.out.row.parts
    replace hat := Hd hat
    replace hrow1 := Hd hrow1
    replace hrow2 := Hd hrow2
    replace hrow3 := Hd hrow3
    replace hrow4 := Hd hrow4
    by_cases hfit : Fits d x.num (l - sumN L1) x.deep
    · obtain ⟨hfd, hfn⟩ := hfit
      go_wp2_with fail
      refine CH.out.mono ?_
      rintro _ w2 ⟨rfl, h2⟩
      subst w2
      dsimp only []
      go_wp2_with fail
      refine CF.out.mono ?_
      rintro en w3 ⟨hok, _, hb3⟩
      obtain ⟨Ak, ck, Ab, cb, rfl, hin3, hat3⟩ := hok ⟨hfd, hfn⟩
      clear hok
      have hz3 := hb3.size
      have hbase := HI.out.but.size
      replace hin3 := Hd hin3
      replace hat3 := Hd hat3
      replace hb3 := Hd hb3
      unfold ftV
      dsimp only []
      go_wp2_with (at_builtin; refine wpList_append_lies _ rfl (.tmp 11) (.tmp 15) 22 rfl w.heap.size 25 i0 _ 7 120 Tryz.underlying22 hi q1 q2 q3 rfl (by decide) (.slice A L1.length c) L1.length cs rfl (World.ownsRow.alloc (owns_but hrow1.out hb3.out hpl) _) ⟨w3.heap.size, 0, none⟩ 1 1 (ft7 x Ak ck Ab cb) rfl rfl (World.news_of_block (cs := #[.int .i64 x.k, .slice Ak x.kids.length ck, .string (baO x.t), .string (baO x.v), .string (baO x.a), .string (baO x.z), .slice Ab x.b.length cb]) (fr := (0, 0)) (heap_alloc_new w3 _)) (ft7_one x Ak ck Ab cb) (by decide) (by simp only [maxLen]; omega) (by omega) (by simp; omega) _ rfl ?hgo)
      case hgo =>
       intro g6 cap w6 hown hg6 hat6 _
       have HS := Hd (pl_step HI.out hpl hb3.out hfd hfn hin3.out hat3.out hrow2.out hrow3.out hrow4.out hown hg6 (by simpa using hat6))
       clear hown hg6 hat6
       have hln : (L1 ++ [x]).length = L1.length + 1 := by simp
       have hgl : L1.length < g.list.length := by rw [hL.out]; simp
       go_wp2_with fail
       refine ⟨⟨L1 ++ [x], L2, some ⟨g6, 0, none⟩, cap, by rw [hln], Hd (by rw [hL.out]; simp), by rw [hln]; exact HS⟩, ?_⟩
       simp only [lenV]
       omega
    · have HB := Hd (fun W hb => hbad.out wr L1 L2 x _ W HI.out hL.out hfit hb)
      go_wp2_with fail
      refine CH.out.mono ?_
      rintro _ w2 ⟨rfl, h2⟩
      subst w2
      dsimp only []
      go_wp2_with fail
      refine CF.out.mono ?_
      rintro en w3 ⟨_, hno, hb3⟩
      obtain rfl := hno hfit
      dsimp only []
      exact ⟨rfl, HB.out _ hb3⟩
end Go.Proofs.YtcbiedonmibfaaaGreatDoor
namespace Go.Proofs.YtcbiedonmibfaaaGreatDoor
open Go.RowKit Go.Lib
theorem sgn_lt (k : Int) : sgn k < 256 := by
 unfold sgn
 split
 · omega
 · split <;> omega
theorem sgn_ne {i k : Int} (hi : 0 ≤ i ∧ i < 3) (hk : 0 ≤ k ∧ k < 3) (h : i ≠ k) : sgn i ≠ sgn k := by
 have h1 : i = 0 ∨ i = 1 ∨ i = 2 := by omega
 have h2 : k = 0 ∨ k = 1 ∨ k = 2 := by omega
 rcases h1 with rfl | rfl | rfl <;> rcases h2 with rfl | rfl | rfl <;> first | (exact absurd rfl h) | decide
theorem sgn_not (i : Int) (c : Nat) (h : isD c) : sgn i ≠ c := by
 unfold sgn isD at *
 split
 · omega
 · split <;> omega
theorem ii_cell {w : World} {b : Nat} (h : w.heap[b]? = some (.cells #[.int .i64 0, .int .i64 1, .int .i64 2] 3 (0, 0))) (i : Nat) (hi : i < 3) : w.cell? ⟨b, i, none⟩ = some (.int .i64 (i : Int)) := by
 obtain ⟨h0, h1, h2⟩ := cells3i h
 have : i = 0 ∨ i = 1 ∨ i = 2 := by omega
 rcases this with rfl | rfl | rfl
 · exact h0
 · exact h1
 · exact h2
theorem But.heap {p : Nat} {w w' : World} {b : Nat} {o : Obj} (h : But p w w') (hb : w.heap[b]? = some o) (hp : b ≠ p) : w'.heap[b]? = some o := (h.block b (Array.getElem?_eq_some_iff.1 hb).1 hp).trans hb
structure InI (p R B : Nat) (l : Int) (t : List Nat) (w wr : World) : Prop where
 but : But p w wr
 at_ : PAt wr p t l
 res : wr.heap[R]? = some (.cells #[.int .i64 0, .slice none 0 0, .string ⟨#[]⟩, .string ⟨#[]⟩, .string ⟨#[]⟩, .string ⟨#[]⟩, .slice none 0 0] 25 (0, 0))
 kin : wr.heap[B]? = some (.cells #[.int .i64 0, .int .i64 1, .int .i64 2] 3 (0, 0))
theorem InI.go {p R B : Nat} {l : Int} {t : List Nat} {w wr w' : World} (h : InI p R B l t w wr) (hb : But p wr w') (ha : PAt w' p t l) (hR : R ≠ p) (hB : B ≠ p) : InI p R B l t w w' :=
 ⟨h.but.trans hb, ha, hb.heap h.res hR, hb.heap h.kin hB⟩
theorem leaf_hd {f : Ft} (hf : LeafOk f) (r : List Nat) (i : Int) : (f.leaf ++ r).head? ≠ some (sgn i) := by
 obtain ⟨c, h1, h2⟩ := leaf_head hf r
 rw [h1]
 intro e
 injection e with e
 exact sgn_not i c h2 e.symm
theorem tail_cut (a r : List Nat) : (strB (a ++ r)).extract a.length (strB (a ++ r)).size = strB r := by
 apply ba_ext
 rw [ByteArray.data_extract, Array.toList_extract, List.extract_eq_take_drop, strB_list, strB_list, List.map_append, List.drop_append_of_le_length (by simp)]
 rw [strB_sizeE]
 have : (a.map UInt8.ofNat).drop a.length = [] := by simp
 rw [this, List.nil_append]
 exact List.take_of_length_le (by simp)
theorem set7_size {W : World} {R : Nat} (u0 u1 u2 u3 u4 u5 u6 : Value) : (set7 W R u0 u1 u2 u3 u4 u5 u6).heap.size = W.heap.size := by
 unfold set7
 simp only [World.setCell, Array.size_modify]
theorem But.setCell {p R : Nat} {w W : World} (h : But p w W) (hR : w.heap.size ≤ R) (o : Nat) (u : Value) : But p w (W.setCell ⟨R, o, none⟩ u) :=
 ⟨h.os, h.tape, h.output, by simp only [World.setCell, Array.size_modify]; exact h.size, fun b hb hp => (Below.heap_setCell _ _ _ _ (by show b ≠ R; omega)).trans (h.block b hb hp)⟩
theorem but_set7 {p R : Nat} {w W : World} (h : But p w W) (hR : w.heap.size ≤ R) (u0 u1 u2 u3 u4 u5 u6 : Value) : But p w (set7 W R u0 u1 u2 u3 u4 u5 u6) :=
 ((((((h.setCell hR 0 u0).setCell hR 1 u1).setCell hR 2 u2).setCell hR 3 u3).setCell hR 4 u4).setCell hR 5 u5).setCell hR 6 u6
theorem FtIn.set {W W9 : World} {R lo : Nat} {f : Ft} {Ak Ab : Option Addr} {ck cb : Nat} (h : FtIn W (New lo W) f Ak ck Ab cb) (hn : ∀ k, k ≠ R → W9.heap[k]? = W.heap[k]?) (hR : R < lo) : FtIn W9 (New lo W9) f Ak ck Ab cb :=
 (h.keep fun _ hq => World.cell?_of_block (hn _ (by have := hq.1; omega))).more fun _ hb => ⟨hb.1, hb.2.of (hn _ (by have := hb.1; omega))⟩
theorem New.mono {lo lo' : Nat} {w : World} (h : lo' ≤ lo) (b : Nat) (hb : New lo w b) : New lo' w b := ⟨Nat.le_trans h hb.1, hb.2⟩
theorem inner_any (f : Ft) (d : Nat) (hd : d ≤ 10) (l : Int) (hl0 : 0 ≤ l) (hl : l ≤ 63) (p : Nat) (r : List Nat) (w : World) (hf : f.all = true) (hr : byE r) (hlen : f.body.length + r.length ≤ 4094) (hp : PAt w p (f.body ++ 41 :: r) l)
 (ih : ∀ x ∈ f.kids, ∀ (l' : Int) (r' : List Nat) (W : World), 0 ≤ l' → l' ≤ 64 → PAt W p (x.text ++ r') l' → byE r' → x.text.length + r'.length ≤ 4096 → Calls Tryz.prog 30 #[.pointer (some ⟨p, 0, none⟩), .int .i64 ((d + 1 : Nat) : Int)] W (PfP x r' (d + 1) l' p W)) :
 Calls Tryz.prog 63 #[.pointer (some ⟨p, 0, none⟩), .int .i64 (d : Int)] w (PiP f r d l p w) := by
 have hpl := hp.lt
 have hone := (all_parts hf).1
 have hgall := (all_parts hf).2
 have hbb := body_by hf
 have hby : byE (f.body ++ 41 :: r) := fun c hc => by
  rcases List.mem_append.1 hc with hc | hc
  · exact hbb c hc
  · rcases List.mem_cons.1 hc with hc | hc
    · omega
    · exact hr c hc
 have hd1 : ((d + 1 : Nat) : Int) = (d : Int) + 1 := by omega
 obtain ⟨bd, hbd⟩ : ∃ b, b = f.body ++ 41 :: r := ⟨_, rfl⟩
 rw [← hbd] at hp hby
 obtain ⟨W0, hW0⟩ : ∃ W0, W0 = w.alloc (.cells #[.int .i64 0, .slice none 0 0, .string ⟨#[]⟩, .string ⟨#[]⟩, .string ⟨#[]⟩, .string ⟨#[]⟩, .slice none 0 0] 25) := ⟨_, rfl⟩
 have hB0 : But p w W0 := by rw [hW0]; exact But.of ((Below.refl _ _).alloc (Nat.le_refl _) _)
 have hR0 : W0.heap[w.heap.size]? = some (.cells #[.int .i64 0, .slice none 0 0, .string ⟨#[]⟩, .string ⟨#[]⟩, .string ⟨#[]⟩, .string ⟨#[]⟩, .slice none 0 0] 25 (0, 0)) := by rw [hW0]; exact heap_alloc_new w _
 have hz0 : w.heap.size < W0.heap.size := by rw [hW0]; simp
 have hz1 := Hd (show W0.heap.size = w.heap.size + 1 by rw [hW0]; simp)
 have hp0 : PAt W0 p bd l := by rw [hW0]; exact hp.al _
 have hRp : w.heap.size ≠ p := by omega
 replace hp := Hd hp
 replace hbd := Hd hbd
 replace hbb := Hd hbb
 replace hf := Hd hf
 replace hone := Hd hone
 replace hgall := Hd hgall
 replace ih := Hd ih
 replace hr := Hd hr
 replace hB0 := Hd hB0
 replace hp0 := Hd hp0
 replace hR0 := Hd hR0
 replace hby := Hd hby
 replace hd1 := Hd hd1
 go_enter Tryz.func63, Tryz.ntmps63
 go_wp2_with fail
 rw [← hW0]
 replace hW0 := Hd hW0
 go_wp2_with fail
 obtain ⟨W3, hW3⟩ : ∃ W3, W3 = W0.alloc (.cells #[.int .i64 0, .int .i64 1, .int .i64 2] 3) := ⟨_, rfl⟩
 have hI3 : InI p w.heap.size (w.heap.size + 1) l bd w W3 := by
  rw [hW3]
  exact ⟨hB0.out.trans (But.of ((Below.refl _ _).alloc (Nat.le_refl _) _)), hp0.out.al _, (Below.heap_alloc _ _ _ (by omega)).trans hR0.out, by rw [← hz1.out]; exact heap_alloc_new W0 _⟩
 have hBp : w.heap.size + 1 ≠ p := by omega
 rw [← hW3]
 replace hW3 := Hd hW3
 replace hI3 := Hd hI3
 go_loopw [12] (fun iv wr => ∃ (i : Nat), i ≤ 3 ∧ iv = .int .i64 (i : Int) ∧ Hid (InI p w.heap.size (w.heap.size + 1) l bd w wr) ∧ Hid (∀ j < i, f.k ≠ (j : Int))) (fun i _ => 3 - (RowKit.intOf i).toNat)
 case atStart => exact ⟨0, by omega, rfl, hI3, Hd fun j hj => absurd hj (by omega)⟩
 case round =>
  obtain ⟨i, hi, rfl, HI, hmiss⟩ := hrel
  by_cases hlt : i < 3
  · have hc := ii_cell HI.out.kin i hlt
    have CS := Hd fun W => (by have := sign_any (i : Int) ⟨by omega, by omega⟩ W; rw [if_pos (by omega)] at this; exact this : Calls Tryz.prog 60 #[.int .i64 (i : Int)] W fun en w' => en = .returned (.string (strB [sgn (i : Int)])) ∧ w' = W)
    have j1 : (i : Int) < 3 := by omega
    have j0 : (0 : Int) ≤ (i : Int) := by omega
    obtain ⟨sq, hsq⟩ : ∃ s, s = strB [sgn (i : Int)] := ⟨_, rfl⟩
    rw [← hsq] at CS
    by_cases hk : f.k = (i : Int)
    · have hk3 : f.k < 3 := by omega
      have hno := node_ok hone.out hk3
      have hbody : bd = [sgn (i : Int)] ++ (f.g.text ++ 41 :: r) := by
       rw [hbd.out]
       unfold Ft.body
       rw [if_pos hk3, hk]
       rfl
      have hat : PAt wr p ([sgn (i : Int)] ++ (f.g.text ++ 41 :: r)) l := by rw [← hbody]; exact HI.out.at_
      have CT := Hd (took_hit p [sgn (i : Int)] (f.g.text ++ 41 :: r) l sq wr hat hsq)
      have hbl : f.g.text.length + r.length ≤ 4095 := by
       have h1 : f.body.length = f.g.text.length + 1 := by
        unfold Ft.body
        rw [if_pos hk3]
        rfl
       omega
      have CF := Hd fun W (hW : PAt W p (f.g.text ++ 41 :: r) l) => (by rw [← hd1.out]; exact filters_any f.g (d + 1) l hl0 (by omega) p r W hgall.out hr.out hbl hW ih.out : Calls Tryz.prog 111 #[.pointer (some ⟨p, 0, none⟩), .int .i64 ((d : Int) + 1)] W (PlP f.g r (d + 1) l p W))
      have hiff : ((∀ x ∈ f.g.list, d + 1 + x.deep ≤ 11) ∧ (f.g.num : Int) ≤ l) ↔ Fits d f.num (l + 1) f.deep := by
       have e1 : f.num = f.g.num + 1 := rfl
       have e2 : f.deep = f.g.deep + 1 := rfl
       unfold Fits
       rw [e1, e2]
       constructor
       · rintro ⟨h1, h2⟩
         have := gl_deep_le f.g (10 - d) fun x hx => by have := h1 x hx; omega
         exact ⟨by omega, by omega⟩
       · rintro ⟨h1, h2⟩
         exact ⟨fun x hx => by have := deep_mem f.g x hx; omega, by omega⟩
      replace hiff := Hd hiff
      replace hsq := Hd hsq
      replace hat := Hd hat
      replace hbody := Hd hbody
      replace hno := Hd hno
      replace hk := Hd hk
      by_cases hfit : Fits d f.num (l + 1) f.deep
      · go_wp2_with fail
        refine (CS.out _).mono ?_
        rintro _ w4 ⟨rfl, h4⟩
        subst w4
        dsimp only []
        go_wp2_with fail
        refine CT.out.mono ?_
        rintro _ w4 ⟨rfl, hat4, hb4⟩
        have CF4 := Hd (CF.out w4 hat4)
        replace hat4 := Hd hat4
        replace hb4 := Hd hb4
        dsimp only []
        go_wp2_with fail
        refine CF4.out.mono ?_
        rintro en w5 ⟨hok, _, hb5⟩
        obtain ⟨A, c, rfl, hsl, hat5⟩ := hok (hiff.out.2 hfit)
        clear hok
        have hI5 := HI.out.but.trans (hb4.out.trans hb5)
        have hR5 : w5.heap[w.heap.size]? = _ := hb5.heap (hb4.out.heap HI.out.res hRp) hRp
        have hs4 := hb4.out.size
        have hsw := HI.out.but.size
        have hRs := (Array.getElem?_eq_some_iff.1 HI.out.res).1
        replace hsl := Hd hsl
        replace hat5 := Hd hat5
        replace hb5 := Hd hb5
        replace hI5 := Hd hI5
        have hn := hno.out
        have hfv : Value.agg #[.int .i64 (i : Int), .slice A f.g.list.length c, .string ⟨#[]⟩, .string ⟨#[]⟩, .string ⟨#[]⟩, .string ⟨#[]⟩, .slice none 0 0] = ftV f A c none 0 := by
         unfold ftV Ft.kids
         rw [hk.out, hn.t, hn.v, hn.a, hn.z, hn.b]
         rfl
        have hsb : ∀ W I, SrcS W I none 0 f.b := fun W I => by rw [hn.b]; exact SrcS.none_ _ _
        replace hfv := Hd hfv
        replace hsb := Hd hsb
        replace hn := Hd hn
        dsimp only []
        obtain ⟨r0, r1, r2, r3, r4, r5, r6⟩ := cells7 (hR5)
        have f0 := free7 (hR5) 0
        have f1 := free7 (hR5) 1
        have f2 := free7 (hR5) 2
        have f3 := free7 (hR5) 3
        have f4 := free7 (hR5) 4
        have f5 := free7 (hR5) 5
        have f6 := free7 (hR5) 6
        replace hR5 := Hd hR5
        go_wp2_with fail
        have HC := Hd (set7_same (hR5.out) (.int .i64 (i : Int)) (.slice A f.g.list.length c) (.string ⟨#[]⟩) (.string ⟨#[]⟩) (.string ⟨#[]⟩) (.string ⟨#[]⟩) (.slice none 0 0))
        have HN := Hd (fun k (hk : k ≠ w.heap.size) => set7_other (w := w5) (b := w.heap.size) (.int .i64 (i : Int)) (.slice A f.g.list.length c) (.string ⟨#[]⟩) (.string ⟨#[]⟩) (.string ⟨#[]⟩) (.string ⟨#[]⟩) (.slice none 0 0) hk)
        have HZ := Hd (set7_size (W := w5) (R := w.heap.size) (.int .i64 (i : Int)) (.slice A f.g.list.length c) (.string ⟨#[]⟩) (.string ⟨#[]⟩) (.string ⟨#[]⟩) (.string ⟨#[]⟩) (.slice none 0 0))
        have HL := Hd (but_set7 (hI5.out) (R := w.heap.size) (Nat.le_refl _) (.int .i64 (i : Int)) (.slice A f.g.list.length c) (.string ⟨#[]⟩) (.string ⟨#[]⟩) (.string ⟨#[]⟩) (.string ⟨#[]⟩) (.slice none 0 0))
        have HX : set7 w5 w.heap.size (.int .i64 (i : Int)) (.slice A f.g.list.length c) (.string ⟨#[]⟩) (.string ⟨#[]⟩) (.string ⟨#[]⟩) (.string ⟨#[]⟩) (.slice none 0 0) = (((((((w5.setCell ⟨w.heap.size, 0, none⟩ (.int .i64 (i : Int))).setCell ⟨w.heap.size, 1, none⟩ (.slice A f.g.list.length c)).setCell ⟨w.heap.size, 2, none⟩ (.string ⟨#[]⟩)).setCell ⟨w.heap.size, 3, none⟩ (.string ⟨#[]⟩)).setCell ⟨w.heap.size, 4, none⟩ (.string ⟨#[]⟩)).setCell ⟨w.heap.size, 5, none⟩ (.string ⟨#[]⟩)).setCell ⟨w.heap.size, 6, none⟩ (.slice none 0 0)) := rfl
        rw [← HX]
        obtain ⟨W9, hW9⟩ : ∃ W9, W9 = set7 w5 w.heap.size (.int .i64 (i : Int)) (.slice A f.g.list.length c) (.string ⟨#[]⟩) (.string ⟨#[]⟩) (.string ⟨#[]⟩) (.string ⟨#[]⟩) (.slice none 0 0) := ⟨_, rfl⟩
        rw [← hW9] at HC HN HZ HL ⊢
        clear HX hW9 r0 r1 r2 r3 r4 r5 r6 f0 f1 f2 f3 f4 f5 f6
        obtain ⟨v0, v1, v2, v3, v4, v5, v6⟩ := cells7 HC.out
        exact bodyPost_ret (v := .agg #[.int .i64 (i : Int), .slice A f.g.list.length c, .string ⟨#[]⟩, .string ⟨#[]⟩, .string ⟨#[]⟩, .string ⟨#[]⟩, .slice none 0 0]) (by simp [results, Tryz.results63, go_sem, v0, v1, v2, v3, v4, v5, v6]) rfl (⟨fun _ => ⟨A, c, none, 0, congrArg Ending.returned hfv.out, (FtIn.set ⟨hsl.out, hsb.out _ _⟩ HN.out (by omega)).more fun b hb => hb.mono (by omega) b, (HN.out _ hRp.symm).trans (by rw [show l + 1 - (f.num : Int) = l - (f.g.num : Int) by unfold Ft.num; omega]; exact hat5.out)⟩, fun h => absurd hfit h, HL.out⟩)
      · go_wp2_with fail
        refine (CS.out _).mono ?_
        rintro _ w4 ⟨rfl, h4⟩
        subst w4
        dsimp only []
        go_wp2_with fail
        refine CT.out.mono ?_
        rintro _ w4 ⟨rfl, hat4, hb4⟩
        have CF4 := Hd (CF.out w4 hat4)
        replace hat4 := Hd hat4
        replace hb4 := Hd hb4
        dsimp only []
        go_wp2_with fail
        refine CF4.out.mono ?_
        rintro en w5 ⟨_, hno5, hb5⟩
        obtain rfl := hno5 (fun h => hfit (hiff.out.1 h))
        dsimp only []
        exact ⟨rfl, ⟨fun h => absurd h hfit, fun _ => rfl, HI.out.but.trans (hb4.out.trans hb5)⟩⟩
    · have hhd : bd.head? ≠ some (sgn (i : Int)) := by
       rw [hbd.out]
       unfold Ft.body
       by_cases hk3 : f.k < 3
       · rw [if_pos hk3]
         have hno := node_ok hone.out hk3
         intro e
         have e2 : sgn f.k = sgn (i : Int) := by simpa using e
         exact sgn_ne ⟨hno.lo, hk3⟩ ⟨by omega, by omega⟩ hk e2
       · rw [if_neg hk3]
         exact leaf_hd (leaf_ok hone.out hk3) _ _
      have CT := Hd (took_miss p (sgn (i : Int)) bd l sq wr HI.out.at_ hsq (sgn_lt _) hby.out hhd)
      replace hsq := Hd hsq
      replace hhd := Hd hhd
      replace hk := Hd hk
      go_wp2_with fail
      refine (CS.out _).mono ?_
      rintro _ w4 ⟨rfl, h4⟩
      subst w4
      dsimp only []
      go_wp2_with fail
      refine CT.out.mono ?_
      rintro _ w4 ⟨rfl, hat4, hb4⟩
      have HI4 := Hd (HI.out.go hb4 hat4 hRp hBp)
      replace hat4 := Hd hat4
      replace hb4 := Hd hb4
      dsimp only []
      go_wp2_with fail
      go_roundw
      case rel => exact ⟨i + 1, by omega, by go_num, HI4, Hd fun j hj => by
       by_cases hji : j = i
       · rw [hji]; exact hk.out
       · exact hmiss.out j (by omega)⟩
      case measure => simp [RowKit.intOf]; omega
  · have h3 : i = 3 := by omega
    subst h3
    have hr9 := (one_k hone.out)
    have hk3 : ¬ f.k < 3 := by
     have h0 := hmiss.out 0 (by omega)
     have h1 := hmiss.out 1 (by omega)
     have h2 := hmiss.out 2 (by omega)
     omega
    have hlf := leaf_ok hone.out hk3
    have hbody : f.body = f.leaf := by unfold Ft.body; rw [if_neg hk3]
    have hbt : bd = f.leaf ++ 41 :: r := by rw [hbd.out, hbody]
    rw [hbody] at hlen
    have hat := HI.out.at_
    rw [hbt] at hat
    obtain ⟨c0, c1, f00, f01⟩ := cells2 hat
    have CC := Hd (cutB_hit 41 f.leaf r ⟨#[41]⟩ wr rfl (by omega) (fun c hc => (leaf_plain hlf c hc).2.2) (fun h => (leaf_plain hlf 41 h).2.1 rfl) (by omega))
    have hfit : Fits d f.num (l + 1) f.deep ↔ True := by
     unfold Fits Ft.num Ft.deep
     rw [hlf.g]
     simp only [Gl.num, Gl.deep, iff_true]
     omega
    have hfit := hfit.2 trivial
    have hnum1 : f.num = 1 := by unfold Ft.num; rw [hlf.g]; rfl
    have CSi := Hd fun W => simple_any f hlf (by omega) W
    have hsz : (strB (f.leaf ++ 41 :: r)).size = f.leaf.length + (r.length + 1) := by rw [strB_sizeE]; simp
    have hsz2 : (strB f.leaf).size = f.leaf.length := strB_sizeE _
    have hex := tail_cut f.leaf (41 :: r)
    obtain ⟨n, hn⟩ : ∃ n, n = f.leaf.length := ⟨_, rfl⟩
    obtain ⟨s1, hs1⟩ : ∃ s, s = strB (f.leaf ++ 41 :: r) := ⟨_, rfl⟩
    obtain ⟨s2, hs2⟩ : ∃ s, s = strB f.leaf := ⟨_, rfl⟩
    obtain ⟨s3, hs3⟩ : ∃ s, s = strB (41 :: r) := ⟨_, rfl⟩
    rw [← hs1, ← hs2] at CC
    rw [← hs1] at c0 hsz hex
    rw [← hs2] at hsz2
    simp only [← hs2] at CSi
    rw [← hs3] at hex
    rw [← hn] at hsz hsz2 hex
    rw [hsz] at hex
    have j1 : (0 : Int) ≤ (n : Int) := by omega
    have j2 : (n : Int) ≤ (s1.size : Int) := by omega
    have j3 : s1.size ≤ 5000 := by omega
    have hatW : ∀ W, PAt W p (f.leaf ++ 41 :: r) l → PAt (W.setCell ⟨p, 0, none⟩ (.string s3)) p (41 :: r) l := fun W hW => by rw [hs3]; exact set_two0 hW
    have hRr := HI.out.res
    replace hat := Hd hat
    replace hs1 := Hd hs1
    replace hs2 := Hd hs2
    replace hs3 := Hd hs3
    replace hn := Hd hn
    replace hatW := Hd hatW
    replace hRr := Hd hRr
    replace hlf := Hd hlf
    replace hbt := Hd hbt
    replace hbody := Hd hbody
    replace hnum1 := Hd hnum1
    go_wp2_with fail
    refine CC.out.mono ?_
    rintro _ w4 ⟨rfl, hb4⟩
    have hat4 := hat.out.below hb4
    obtain ⟨c0', c1', f00', f01'⟩ := cells2 hat4
    rw [← hs1.out] at c0'
    clear c0 c1 f00 f01
    have hR4 : w4.heap[w.heap.size]? = _ := (hb4.block _ (Array.getElem?_eq_some_iff.1 hRr.out).1).trans hRr.out
    have hB4 := HI.out.but.trans (But.of hb4)
    replace hat4 := Hd hat4
    replace hR4 := Hd hR4
    replace hb4 := Hd hb4
    replace hB4 := Hd hB4
    dsimp only []
    go_wp2_with fail
    obtain ⟨W5, hW5⟩ : ∃ W5, W5 = w4.setCell ⟨p, 0, none⟩ (.string s3) := ⟨_, rfl⟩
    have hat5 : PAt W5 p (41 :: r) l := by rw [hW5]; exact hatW.out _ hat4.out
    have hB5 : But p w W5 := by rw [hW5]; exact hB4.out.trans (But.set 0 _)
    have hR5 : W5.heap[w.heap.size]? = some (.cells #[.int .i64 0, .slice none 0 0, .string ⟨#[]⟩, .string ⟨#[]⟩, .string ⟨#[]⟩, .string ⟨#[]⟩, .slice none 0 0] 25 (0, 0)) := by rw [hW5, Below.heap_setCell _ _ _ _ hRp]; exact hR4.out
    rw [← hW5]
    replace hW5 := Hd hW5
    clear c0' c1' f00' f01'
    refine (CSi.out _).mono ?_
    rintro _ w6 ⟨Ab, cb, rfl, hs6, hb6⟩
    have hat6 := hat5.below hb6
    have hB6 := hB5.trans (But.of hb6)
    have hR6 : w6.heap[w.heap.size]? = _ := (hb6.block _ (Array.getElem?_eq_some_iff.1 hR5).1).trans hR5
    have hsR := (Array.getElem?_eq_some_iff.1 hR5).1
    replace hat6 := Hd hat6
    replace hB6 := Hd hB6
    replace hs6 := Hd hs6
    replace hb6 := Hd hb6
    unfold ftV
    dsimp only []
    obtain ⟨r0, r1, r2, r3, r4, r5, r6⟩ := cells7 (hR6)
    have f0 := free7 (hR6) 0
    have f1 := free7 (hR6) 1
    have f2 := free7 (hR6) 2
    have f3 := free7 (hR6) 3
    have f4 := free7 (hR6) 4
    have f5 := free7 (hR6) 5
    have f6 := free7 (hR6) 6
    replace hR6 := Hd hR6
    go_wp2_with fail
    have HC := Hd (set7_same (hR6.out) (.int .i64 f.k) (.slice none f.kids.length 0) (.string (baO f.t)) (.string (baO f.v)) (.string (baO f.a)) (.string (baO f.z)) (.slice Ab f.b.length cb))
    have HN := Hd (fun k (hk : k ≠ w.heap.size) => set7_other (w := w6) (b := w.heap.size) (.int .i64 f.k) (.slice none f.kids.length 0) (.string (baO f.t)) (.string (baO f.v)) (.string (baO f.a)) (.string (baO f.z)) (.slice Ab f.b.length cb) hk)
    have HZ := Hd (set7_size (W := w6) (R := w.heap.size) (.int .i64 f.k) (.slice none f.kids.length 0) (.string (baO f.t)) (.string (baO f.v)) (.string (baO f.a)) (.string (baO f.z)) (.slice Ab f.b.length cb))
    have HL := Hd (but_set7 (hB6.out) (R := w.heap.size) (Nat.le_refl _) (.int .i64 f.k) (.slice none f.kids.length 0) (.string (baO f.t)) (.string (baO f.v)) (.string (baO f.a)) (.string (baO f.z)) (.slice Ab f.b.length cb))
    have HX : set7 w6 w.heap.size (.int .i64 f.k) (.slice none f.kids.length 0) (.string (baO f.t)) (.string (baO f.v)) (.string (baO f.a)) (.string (baO f.z)) (.slice Ab f.b.length cb) = (((((((w6.setCell ⟨w.heap.size, 0, none⟩ (.int .i64 f.k)).setCell ⟨w.heap.size, 1, none⟩ (.slice none f.kids.length 0)).setCell ⟨w.heap.size, 2, none⟩ (.string (baO f.t))).setCell ⟨w.heap.size, 3, none⟩ (.string (baO f.v))).setCell ⟨w.heap.size, 4, none⟩ (.string (baO f.a))).setCell ⟨w.heap.size, 5, none⟩ (.string (baO f.z))).setCell ⟨w.heap.size, 6, none⟩ (.slice Ab f.b.length cb)) := rfl
    rw [← HX]
    obtain ⟨W9, hW9⟩ : ∃ W9, W9 = set7 w6 w.heap.size (.int .i64 f.k) (.slice none f.kids.length 0) (.string (baO f.t)) (.string (baO f.v)) (.string (baO f.a)) (.string (baO f.z)) (.slice Ab f.b.length cb) := ⟨_, rfl⟩
    rw [← hW9] at HC HN HZ HL ⊢
    clear HX hW9 r0 r1 r2 r3 r4 r5 r6 f0 f1 f2 f3 f4 f5 f6
    obtain ⟨v0, v1, v2, v3, v4, v5, v6⟩ := cells7 HC.out
    exact bodyPost_ret (v := .agg #[.int .i64 f.k, .slice none f.kids.length 0, .string (baO f.t), .string (baO f.v), .string (baO f.a), .string (baO f.z), .slice Ab f.b.length cb]) (by simp [results, Tryz.results63, go_sem, v0, v1, v2, v3, v4, v5, v6]) rfl (⟨fun _ => ⟨none, 0, Ab, cb, rfl, (FtIn.set ⟨by rw [hlf.out.g]; exact ⟨Nat.le_refl _, by omega, fun _ => rfl, fun _ h => by cases h⟩, hs6.out⟩ HN.out (by omega)).more fun b hb => hb.mono (by omega) b, (HN.out _ hRp.symm).trans (by rw [show l + 1 - (f.num : Int) = l by rw [hnum1.out]; omega]; exact hat6.out)⟩, fun h => absurd hfit h, HL.out⟩)
end Go.Proofs.YtcbiedonmibfaaaGreatDoor
namespace Go.Proofs.YtcbiedonmibfaaaGreatDoor
open Go.RowKit Go.Lib
theorem FtIn.but {p : Nat} {W W' : World} {lo : Nat} {f : Ft} {Ak Ab : Option Addr} {ck cb : Nat} (h : FtIn W (New lo W) f Ak ck Ab cb) (hb : But p W W') (hp : p < lo) : FtIn W' (New lo W') f Ak ck Ab cb :=
 (h.keep fun _ hq => hb.cell hq.2.lt (by have := hq.1; omega)).more fun _ hq => ⟨hq.1, hb.cl hq.2 (by have := hq.1; omega)⟩
theorem filter_any (f : Ft) : ∀ (d : Nat) (l : Int) (r : List Nat) (p : Nat) (w : World), f.all = true → d ≤ 11 → 0 ≤ l → l ≤ 64 → PAt w p (f.text ++ r) l → byE r → f.text.length + r.length ≤ 4096 →
 Calls Tryz.prog 30 #[.pointer (some ⟨p, 0, none⟩), .int .i64 (d : Int)] w (PfP f r d l p w) := by
 induction f using Ft.ind with
 | h f ih =>
 intro d l r p w hf hd hl0 hl hp hr hlen
 have hpl := hp.lt
 have hdp := Ft.deep_pos f
 have hnp := meas_num f
 obtain ⟨W0, hW0⟩ : ∃ W0, W0 = w.alloc (.cells #[.int .i64 0, .slice none 0 0, .string ⟨#[]⟩, .string ⟨#[]⟩, .string ⟨#[]⟩, .string ⟨#[]⟩, .slice none 0 0] 25) := ⟨_, rfl⟩
 have hB0 : But p w W0 := by rw [hW0]; exact But.of ((Below.refl _ _).alloc (Nat.le_refl _) _)
 have hR0 : W0.heap[w.heap.size]? = some (.cells #[.int .i64 0, .slice none 0 0, .string ⟨#[]⟩, .string ⟨#[]⟩, .string ⟨#[]⟩, .string ⟨#[]⟩, .slice none 0 0] 25 (0, 0)) := by rw [hW0]; exact heap_alloc_new w _
 have hp0 : PAt W0 p (f.text ++ r) l := by rw [hW0]; exact hp.al _
 have hRp : w.heap.size ≠ p := by omega
 obtain ⟨c0, c1, g0, g1⟩ := cells2 hp0
 by_cases hent : d ≤ 10 ∧ 0 < l
 · obtain ⟨hd10, hl1⟩ := hent
   have CE := Hd (enter_ok ⟨p, 1, none⟩ (d : Int) l W0 (by omega) hl1 hl c1 g1)
   have hp1 : PAt (W0.setCell ⟨p, 1, none⟩ (.int .i64 (l - 1))) p (f.text ++ r) (l - 1) := set_two1 hp0
   have hB1 : But p w (W0.setCell ⟨p, 1, none⟩ (.int .i64 (l - 1))) := hB0.trans (But.set 1 _)
   have hR1 : (W0.setCell ⟨p, 1, none⟩ (.int .i64 (l - 1))).heap[w.heap.size]? = _ := (Below.heap_setCell _ _ _ _ hRp).trans hR0
   generalize hW1 : W0.setCell ⟨p, 1, none⟩ (.int .i64 (l - 1)) = W1 at CE hp1 hB1 hR1
   have htx : f.text ++ r = [40] ++ (f.body ++ 41 :: r) := by unfold Ft.text; simp
   rw [htx] at hp1
   have CT1 := Hd (took_hit p [40] (f.body ++ 41 :: r) (l - 1) ⟨#[40]⟩ W1 hp1 rfl)
   have hbl : f.body.length + r.length ≤ 4094 := by
    have : f.text.length = f.body.length + 2 := by unfold Ft.text; simp
    omega
   have CI := Hd fun W (hW : PAt W p (f.body ++ 41 :: r) (l - 1)) => inner_any f d hd10 (l - 1) (by omega) (by omega) p r W hf hr hbl hW (fun x hx l' r' W' a1 a2 a3 a4 a5 => by
    have hxa : x.all = true := by
     have := (all_parts hf).2
     rw [Gl.all_list, List.all_eq_true] at this
     exact this x hx
    exact ih x hx (d + 1) l' r' p W' hxa (by omega) a1 a2 a3 a4 a5)
   have CD := Hd fun W => demand_ok W
   have hone := (all_parts hf).1
   have hfits : Fits d f.num (l - 1 + 1) f.deep ↔ Fits d f.num l f.deep := by rw [show l - 1 + 1 = l by omega]
   have htl : f.t.length ≤ 9500 := by
    by_cases hk3 : f.k < 3
    · rw [(node_ok hone hk3).t]
      exact Nat.zero_le _
    · have := (dsc_len (leaf_ok hone hk3).t).1
      omega
   have CC := Hd fun Ak ck Ab cb W (hs : SrcS W (· < W.heap.size) Ab cb f.b) => (check14_any f Ak ck Ab cb W htl hs).mono fun en w' (h : _) => (⟨by rw [h.1]; exact okIf_yes hone, h.2⟩ : en = .returned (.tuple #[]) ∧ Below W.heap.size W w')
   replace hp := Hd hp
   replace hf := Hd hf
   replace hr := Hd hr
   replace ih := Hd ih
   replace hB0 := Hd hB0
   replace hR0 := Hd hR0
   replace hp0 := Hd hp0
   replace hp1 := Hd hp1
   replace hB1 := Hd hB1
   replace hR1 := Hd hR1
   replace htx := Hd htx
   replace hone := Hd hone
   replace hfits := Hd hfits
   replace hW1 := Hd hW1
   by_cases hfit : Fits d f.num l f.deep
   · go_enter Tryz.func30, Tryz.ntmps30
     go_wp2_with fail
     rw [← hW0]
     replace hW0 := Hd hW0
     go_wp2_with fail
     refine CE.out.mono ?_
     rintro _ w2 ⟨rfl, h2⟩
     subst w2
     clear c0 c1 g0 g1
     dsimp only []
     go_wp2_with fail
     refine CT1.out.mono ?_
     rintro _ w2 ⟨rfl, hp2, hb2⟩
     have CI2 := Hd (CI.out w2 hp2)
     have hB2 := hB1.out.trans hb2
     have hR2 := hb2.heap hR1.out hRp
     replace hp2 := Hd hp2
     replace hb2 := Hd hb2
     replace hB2 := Hd hB2
     replace hR2 := Hd hR2
     dsimp only []
     go_wp2_with fail
     refine (CD.out _).mono ?_
     rintro _ w3 ⟨rfl, h3⟩
     subst w3
     dsimp only []
     go_wp2_with fail
     refine CI2.out.mono ?_
     rintro en w4 ⟨hok, _, hb4⟩
     obtain ⟨Ak, ck, Ab, cb, rfl, hin4, hp4⟩ := hok (hfits.out.2 hfit)
     clear hok
     rw [show l - 1 + 1 - (f.num : Int) = l - f.num by omega] at hp4
     have hB4 := hB2.out.trans hb4
     have hR4 := hb4.heap hR2.out hRp
     have hz4 : w.heap.size < w2.heap.size := (Array.getElem?_eq_some_iff.1 hR2.out).1
     have hz5 := hb4.size
     unfold ftV
     dsimp only []
     go_wp2_with fail
     obtain ⟨W5, hW5⟩ : ∃ W5, W5 = w4.alloc (.cells #[.int .i64 f.k, .slice Ak f.kids.length ck, .string (baO f.t), .string (baO f.v), .string (baO f.a), .string (baO f.z), .slice Ab f.b.length cb] 25) := ⟨_, rfl⟩
     have hX5 : W5.heap[w4.heap.size]? = some (.cells #[.int .i64 f.k, .slice Ak f.kids.length ck, .string (baO f.t), .string (baO f.v), .string (baO f.a), .string (baO f.z), .slice Ab f.b.length cb] 25 (0, 0)) := by rw [hW5]; exact heap_alloc_new w4 _
     have hb5 : Below w4.heap.size w4 W5 := by rw [hW5]; exact (Below.refl _ _).alloc (Nat.le_refl _) _
     have hp5 : PAt W5 p ([41] ++ r) (l - f.num) := hp4.below hb5
     have hB5 := hB4.trans (But.of hb5)
     have hR5 := (But.of hb5 : But p w4 W5).heap hR4 hRp
     have hin5 := hin4.but (But.of hb5 : But p w4 W5) (by omega)
     have CT2 := Hd (took_hit p [41] r (l - f.num) ⟨#[41]⟩ W5 hp5 rfl)
     rw [← hW5]
     replace hW5 := Hd hW5
     replace hin4 := Hd hin4
     replace hp4 := Hd hp4
     replace hB4 := Hd hB4
     replace hR4 := Hd hR4
     replace hb4 := Hd hb4
     replace hX5 := Hd hX5
     replace hb5 := Hd hb5
     replace hp5 := Hd hp5
     replace hB5 := Hd hB5
     replace hR5 := Hd hR5
     replace hin5 := Hd hin5
     refine CT2.out.mono ?_
     rintro _ w6 ⟨rfl, hp6, hb6⟩
     have hz6 := hb5.out.size
     have hX6 := hb6.heap hX5.out (by omega)
     have hB6 := hB5.out.trans hb6
     have hR6 := hb6.heap hR5.out hRp
     have hin6 := hin5.out.but hb6 (by omega)
     have CC6 := Hd (CC.out Ak ck Ab cb w6 (hin6.b.more fun b hb => hb.2.lt))
     unfold ftV at CC6
     obtain ⟨x0, x1, x2, x3, x4, x5, x6⟩ := cells7 hX6
     replace hp6 := Hd hp6
     replace hX6 := Hd hX6
     replace hB6 := Hd hB6
     replace hR6 := Hd hR6
     replace hin6 := Hd hin6
     replace hb6 := Hd hb6
     dsimp only []
     go_wp2_with fail
     refine (CD.out _).mono ?_
     rintro _ w7 ⟨rfl, h7⟩
     subst w7
     dsimp only []
     go_wp2_with fail
     refine CC6.out.mono ?_
     rintro _ w7 ⟨rfl, hb7⟩
     have hX7 := (But.of hb7 : But p w6 w7).heap hX6.out (by omega)
     have hB7 := hB6.out.trans (But.of hb7)
     have hR7 := (But.of hb7 : But p w6 w7).heap hR6.out hRp
     have hin7 := hin6.out.but (But.of hb7 : But p w6 w7) (by omega)
     have hp7 := hp6.out.below hb7
     clear x0 x1 x2 x3 x4 x5 x6
     obtain ⟨x0, x1, x2, x3, x4, x5, x6⟩ := cells7 hX7
     replace hX7 := Hd hX7
     replace hB7 := Hd hB7
     replace hin7 := Hd hin7
     replace hp7 := Hd hp7
     replace hb7 := Hd hb7
     dsimp only []
     obtain ⟨r0, r1, r2, r3, r4, r5, r6⟩ := cells7 (hR7)
     have f0 := free7 (hR7) 0
     have f1 := free7 (hR7) 1
     have f2 := free7 (hR7) 2
     have f3 := free7 (hR7) 3
     have f4 := free7 (hR7) 4
     have f5 := free7 (hR7) 5
     have f6 := free7 (hR7) 6
     replace hR7 := Hd hR7
     go_wp2_with fail
     clear x0 x1 x2 x3 x4 x5 x6
     have HC := Hd (set7_same (hR7.out) (.int .i64 f.k) (.slice Ak f.kids.length ck) (.string (baO f.t)) (.string (baO f.v)) (.string (baO f.a)) (.string (baO f.z)) (.slice Ab f.b.length cb))
     have HN := Hd (fun k (hk : k ≠ w.heap.size) => set7_other (w := w7) (b := w.heap.size) (.int .i64 f.k) (.slice Ak f.kids.length ck) (.string (baO f.t)) (.string (baO f.v)) (.string (baO f.a)) (.string (baO f.z)) (.slice Ab f.b.length cb) hk)
     have HZ := Hd (set7_size (W := w7) (R := w.heap.size) (.int .i64 f.k) (.slice Ak f.kids.length ck) (.string (baO f.t)) (.string (baO f.v)) (.string (baO f.a)) (.string (baO f.z)) (.slice Ab f.b.length cb))
     have HL := Hd (but_set7 (hB7.out) (R := w.heap.size) (Nat.le_refl _) (.int .i64 f.k) (.slice Ak f.kids.length ck) (.string (baO f.t)) (.string (baO f.v)) (.string (baO f.a)) (.string (baO f.z)) (.slice Ab f.b.length cb))
     have HX : set7 w7 w.heap.size (.int .i64 f.k) (.slice Ak f.kids.length ck) (.string (baO f.t)) (.string (baO f.v)) (.string (baO f.a)) (.string (baO f.z)) (.slice Ab f.b.length cb) = (((((((w7.setCell ⟨w.heap.size, 0, none⟩ (.int .i64 f.k)).setCell ⟨w.heap.size, 1, none⟩ (.slice Ak f.kids.length ck)).setCell ⟨w.heap.size, 2, none⟩ (.string (baO f.t))).setCell ⟨w.heap.size, 3, none⟩ (.string (baO f.v))).setCell ⟨w.heap.size, 4, none⟩ (.string (baO f.a))).setCell ⟨w.heap.size, 5, none⟩ (.string (baO f.z))).setCell ⟨w.heap.size, 6, none⟩ (.slice Ab f.b.length cb)) := rfl
     rw [← HX]
     obtain ⟨W9, hW9⟩ : ∃ W9, W9 = set7 w7 w.heap.size (.int .i64 f.k) (.slice Ak f.kids.length ck) (.string (baO f.t)) (.string (baO f.v)) (.string (baO f.a)) (.string (baO f.z)) (.slice Ab f.b.length cb) := ⟨_, rfl⟩
     rw [← hW9] at HC HN HZ HL ⊢
     clear HX hW9 r0 r1 r2 r3 r4 r5 r6 f0 f1 f2 f3 f4 f5 f6
     obtain ⟨v0, v1, v2, v3, v4, v5, v6⟩ := cells7 HC.out
     exact bodyPost_ret (v := .agg #[.int .i64 f.k, .slice Ak f.kids.length ck, .string (baO f.t), .string (baO f.v), .string (baO f.a), .string (baO f.z), .slice Ab f.b.length cb]) (by simp [results, Tryz.results30, go_sem, v0, v1, v2, v3, v4, v5, v6]) rfl (⟨fun _ => ⟨Ak, ck, Ab, cb, rfl, (hin7.out.set HN.out hz4).more fun b hb => hb.mono (by omega) b, (HN.out _ hRp.symm).trans hp7.out⟩, fun h => absurd hfit h, HL.out⟩)
   · go_enter Tryz.func30, Tryz.ntmps30
     go_wp2_with fail
     rw [← hW0]
     replace hW0 := Hd hW0
     go_wp2_with fail
     refine CE.out.mono ?_
     rintro _ w2 ⟨rfl, h2⟩
     subst w2
     clear c0 c1 g0 g1
     dsimp only []
     go_wp2_with fail
     refine CT1.out.mono ?_
     rintro _ w2 ⟨rfl, hp2, hb2⟩
     have CI2 := Hd (CI.out w2 hp2)
     have hB2 := hB1.out.trans hb2
     replace hp2 := Hd hp2
     replace hb2 := Hd hb2
     replace hB2 := Hd hB2
     dsimp only []
     go_wp2_with fail
     refine (CD.out _).mono ?_
     rintro _ w3 ⟨rfl, h3⟩
     subst w3
     dsimp only []
     go_wp2_with fail
     refine CI2.out.mono ?_
     rintro en w4 ⟨_, hno, hb4⟩
     obtain rfl := hno (fun h => hfit (hfits.out.1 h))
     dsimp only []
     exact ⟨rfl, ⟨fun h => absurd h hfit, fun _ => rfl, hB2.out.trans hb4⟩⟩
 · have hno : ¬ Fits d f.num l f.deep := fun h => hent ⟨by have := h.1; omega, by have := h.2; omega⟩
   have CE := Hd (enter_no ⟨p, 1, none⟩ (d : Int) l W0 (by omega) c1)
   replace hp := Hd hp
   replace hf := Hd hf
   replace hr := Hd hr
   replace ih := Hd ih
   replace hR0 := Hd hR0
   replace hp0 := Hd hp0
   replace hB0 := Hd hB0
   clear hent
   go_enter Tryz.func30, Tryz.ntmps30
   go_wp2_with fail
   rw [← hW0]
   replace hW0 := Hd hW0
   go_wp2_with fail
   refine CE.out.mono ?_
   rintro _ w2 ⟨rfl, h2⟩
   subst w2
   dsimp only []
   exact ⟨rfl, ⟨fun h => absurd h hno, fun _ => rfl, hB0.out⟩⟩
end Go.Proofs.YtcbiedonmibfaaaGreatDoor
namespace Go.Proofs.YtcbiedonmibfaaaGreatDoor
open Go.RowKit Go.Lib
theorem catch14_idle (p : Addr) (w : World) :
 CallsD Tryz.prog 56 #[.pointer (some p)] .returning w fun e u' w' => e = .returned (.tuple #[]) ∧ u' = .returning ∧ w' = w := by
 refine callsD_of_wpS Tryz.func56 rfl fun c₀ cs hu => ?_
 apply wpS_seq
 apply wpS_region
 simp [wpOpsS, go_sem, recoverD, hu, Tryz.ntmps56, Exit.thenS]
 refine wpS_of_wp ?_
 change Code.wp _ _ _ { tmps := #[.pointer (some p), .nilIface, .nilIface, undef, undef, undef, undef], defers := [] } _
 go_wp2_with fail
 cases c₀
 simp_all [bodyPostS, results, Tryz.results56]
theorem catch14_pan (b : Nat) (older : List PanicEntry) (w : World) (y : Value) (h1 : w.heap[b]? = some (.cells #[y] 34 (0, 0))) :
 CallsD Tryz.prog 56 #[.pointer (some ⟨b, 0, none⟩)] (.panicking ({ v := .iface 34 (.int .i64 11), recovered := false } :: older)) w fun en u' w' =>
  en = .returned (.tuple #[]) ∧ u' = .panicking ({ v := .iface 34 (.int .i64 11), recovered := true } :: older) ∧ w' = w.setCell ⟨b, 0, none⟩ (.int .i64 11) := by
 refine callsD_of_wpS Tryz.func56 rfl fun c₀ cs hu => ?_
 apply wpS_seq
 apply wpS_region
 simp [wpOpsS, go_sem, recoverD, hu, Tryz.ntmps56, Exit.thenS]
 refine wpS_of_wp ?_
 change Code.wp _ _ _ { tmps := #[.pointer (some ⟨b, 0, none⟩), .iface 34 (.int .i64 11), .iface 34 (.int .i64 11), undef, undef, undef, undef], defers := [] } _
 have x0 := cell_of_one h1
 have x1 := free_of_one h1
 have hta : ∀ w : World, (Instr.typeAssert (.iface 34 (.int .i64 11)) 20 34 false).run Tryz.prog w = .ok (.int .i64 11) w := fun w => by kernel_rfl
 replace h1 := Hd h1
 go_wp2_with fail
 change bodyPostS _ _ _ _ _ _ _ _ _
 simp [bodyPostS, results, Tryz.results56]
theorem outcome_ok_parse {X : Option Addr → Nat → Option Addr → Nat → World → Prop} (f : Ft) (c : Addr) (w : World)
 (HK : ∀ W, Below w.heap.size w W → w.heap.size + 2 ≤ W.heap.size → Calls Tryz.prog 29 #[.pointer (some c)] W fun en w' => ∃ Ak ck Ab cb, en = .returned (ftV f Ak ck Ab cb) ∧ X Ak ck Ab cb w' ∧ Below W.heap.size W w')
 (hX : ∀ Ak ck Ab cb w' w'', X Ak ck Ab cb w' → (∀ k, k ≠ w.heap.size → k ≠ w.heap.size + 1 → w''.heap[k]? = w'.heap[k]?) → X Ak ck Ab cb w'') :
 Calls Tryz.prog 24 #[.func (.func 29) #[] #[.pointer (some c)]] w fun en w' => ∃ Ak ck Ab cb, en = .returned (.tuple #[ftV f Ak ck Ab cb, .int .i64 0]) ∧ X Ak ck Ab cb w' ∧ Below w.heap.size w w' := by
 obtain ⟨W0, hW0⟩ : ∃ W0, W0 = (w.alloc (.cells #[.int .i64 0, .slice none 0 0, .string ⟨#[]⟩, .string ⟨#[]⟩, .string ⟨#[]⟩, .string ⟨#[]⟩, .slice none 0 0] 25)).alloc (.cells #[.int .i64 0] 34) := ⟨_, rfl⟩
 have hB0 : Below w.heap.size w W0 := by rw [hW0]; exact ((Below.refl _ _).alloc (Nat.le_refl _) _).alloc (by simp) _
 have hz0 : W0.heap.size = w.heap.size + 2 := by rw [hW0]; simp
 have hR0 : W0.heap[w.heap.size]? = some (.cells #[.int .i64 0, .slice none 0 0, .string ⟨#[]⟩, .string ⟨#[]⟩, .string ⟨#[]⟩, .string ⟨#[]⟩, .slice none 0 0] 25 (0, 0)) := by rw [hW0, Below.heap_alloc _ _ _ (by simp)]; exact heap_alloc_new w _
 have hE0 : W0.heap[w.heap.size + 1]? = some (.cells #[.int .i64 0] 34 (0, 0)) := by rw [hW0]; exact heap_alloc_new (w.alloc _) _ |> (by simpa using ·)
 have CK := Hd (HK W0 hB0 (by omega))
 have hmf : ∀ (fn : Fn) (first cap : Array Value) (w : World), (Instr.makeFunc fn first cap).run Tryz.prog w = .ok (.func fn first cap) w := fun _ _ _ _ => rfl
 clear HK
 replace hX := Hd hX
 replace hB0 := Hd hB0
 replace hz0 := Hd hz0
 replace hR0 := Hd hR0
 replace hE0 := Hd hE0
 go_enter_defers Tryz.func24, Tryz.ntmps24
 go_wp2_with fail
 rw [← hW0]
 replace hW0 := Hd hW0
 try go_wp2_with fail
 refine CK.out.mono ?_
 rintro en w3 ⟨Ak, ck, Ab, cb, rfl, hx3, hb3⟩
 have hR3 := (hb3.block _ (by have := hz0.out; omega)).trans hR0.out
 have hE3 := (hb3.block _ (by have := hz0.out; omega)).trans hE0.out
 have hB3 := hB0.out.trans (hb3.mono (by have := hz0.out; omega))
 obtain ⟨r0, r1, r2, r3, r4, r5, r6⟩ := cells7 hR3
 have f0 := free7 hR3 0
 have f1 := free7 hR3 1
 have f2 := free7 hR3 2
 have f3 := free7 hR3 3
 have f4 := free7 hR3 4
 have f5 := free7 hR3 5
 have f6 := free7 hR3 6
 have e0 := cell_of_one hE3
 have e1 := free_of_one hE3
 have hne : w.heap.size + 1 ≠ w.heap.size := by omega
 replace hR3 := Hd hR3
 replace hE3 := Hd hE3
 replace hB3 := Hd hB3
 replace hb3 := Hd hb3
 replace hx3 := Hd hx3
 unfold ftV
 dsimp only []
 go_wp2_with fail
 obtain ⟨W8, hW8⟩ : ∃ W8, W8 = set7 w3 w.heap.size (.int .i64 f.k) (.slice Ak f.kids.length ck) (.string (baO f.t)) (.string (baO f.v)) (.string (baO f.a)) (.string (baO f.z)) (.slice Ab f.b.length cb) := ⟨_, rfl⟩
 have hC8 : W8.heap[w.heap.size]? = some (.cells #[.int .i64 f.k, .slice Ak f.kids.length ck, .string (baO f.t), .string (baO f.v), .string (baO f.a), .string (baO f.z), .slice Ab f.b.length cb] 25 (0, 0)) := by rw [hW8]; exact set7_same hR3.out (.int .i64 f.k) (.slice Ak f.kids.length ck) (.string (baO f.t)) (.string (baO f.v)) (.string (baO f.a)) (.string (baO f.z)) (.slice Ab f.b.length cb)
 have hE8 : W8.heap[w.heap.size + 1]? = some (.cells #[.int .i64 0] 34 (0, 0)) := by rw [hW8]; exact (set7_other _ _ _ _ _ _ _ hne).trans hE3.out
 have hN8 : ∀ k, k ≠ w.heap.size → W8.heap[k]? = w3.heap[k]? := fun k hk => by rw [hW8]; exact set7_other _ _ _ _ _ _ _ hk
 have hB8 : Below w.heap.size w W8 := by rw [hW8]; exact set7_below hB3.out (Nat.le_refl _) _ _ _ _ _ _ _
 have HX : (((((((w3.setCell ⟨w.heap.size, 0, none⟩ (.int .i64 f.k)).setCell ⟨w.heap.size, 1, none⟩ (.slice Ak f.kids.length ck)).setCell ⟨w.heap.size, 2, none⟩ (.string (baO f.t))).setCell ⟨w.heap.size, 3, none⟩ (.string (baO f.v))).setCell ⟨w.heap.size, 4, none⟩ (.string (baO f.a))).setCell ⟨w.heap.size, 5, none⟩ (.string (baO f.z))).setCell ⟨w.heap.size, 6, none⟩ (.slice Ab f.b.length cb)) = W8 := hW8.symm
 rw [HX]
 clear HX hW8
 obtain ⟨W9, hW9⟩ : ∃ W9, W9 = W8.setCell ⟨w.heap.size + 1, 0, none⟩ (.int .i64 0) := ⟨_, rfl⟩
 have hC9 : W9.heap[w.heap.size]? = some (.cells #[.int .i64 f.k, .slice Ak f.kids.length ck, .string (baO f.t), .string (baO f.v), .string (baO f.a), .string (baO f.z), .slice Ab f.b.length cb] 25 (0, 0)) := by rw [hW9, Below.heap_setCell _ _ _ _ (by show w.heap.size ≠ w.heap.size + 1; omega)]; exact hC8
 have hE9 : W9.heap[w.heap.size + 1]? = some (.cells #[.int .i64 0] 34 (0, 0)) := by rw [hW9]; exact set_one hE8
 have hN9 : ∀ k, k ≠ w.heap.size → k ≠ w.heap.size + 1 → W9.heap[k]? = w3.heap[k]? := fun k hk hk2 => by rw [hW9, Below.heap_setCell _ _ _ _ (by show k ≠ w.heap.size + 1; omega)]; exact hN8 k hk
 have hB9 : Below w.heap.size w W9 := by rw [hW9]; exact hB8.setCell (by show w.heap.size ≤ w.heap.size + 1; omega) _
 rw [← hW9]
 have hx9 := hX.out _ _ _ _ _ _ hx3.out hN9
 clear hW9 r0 r1 r2 r3 r4 r5 r6 f0 f1 f2 f3 f4 f5 f6 e0 e1
 obtain ⟨v0, v1, v2, v3, v4, v5, v6⟩ := cells7 hC9
 have v7 := cell_of_one hE9
 refine leaves_cons (f := 56) (args := #[.pointer (some ⟨w.heap.size + 1, 0, none⟩)]) (by simp) (by simp [go_sem]) ?_
 refine (catch14_idle _ _).mono ?_
 rintro e u' w'' ⟨rfl, rfl, rfl⟩
 exact ⟨.tuple #[.agg #[.int .i64 f.k, .slice Ak f.kids.length ck, .string (baO f.t), .string (baO f.v), .string (baO f.a), .string (baO f.z), .slice Ab f.b.length cb], .int .i64 0], by simp [results, Tryz.results24, go_sem, v0, v1, v2, v3, v4, v5, v6, v7], ⟨Ak, ck, Ab, cb, rfl, hx9, hB9⟩⟩
theorem outcome_no_parse (c : Addr) (w : World)
 (HK : ∀ W, Below w.heap.size w W → w.heap.size + 2 ≤ W.heap.size → Calls Tryz.prog 29 #[.pointer (some c)] W fun en w' => en = bad14 ∧ Below W.heap.size W w') :
 Calls Tryz.prog 24 #[.func (.func 29) #[] #[.pointer (some c)]] w fun en w' => en = .returned (.tuple #[.agg #[.int .i64 0, .slice none 0 0, .string ⟨#[]⟩, .string ⟨#[]⟩, .string ⟨#[]⟩, .string ⟨#[]⟩, .slice none 0 0], .int .i64 11]) ∧ Below w.heap.size w w' := by
 obtain ⟨W0, hW0⟩ : ∃ W0, W0 = (w.alloc (.cells #[.int .i64 0, .slice none 0 0, .string ⟨#[]⟩, .string ⟨#[]⟩, .string ⟨#[]⟩, .string ⟨#[]⟩, .slice none 0 0] 25)).alloc (.cells #[.int .i64 0] 34) := ⟨_, rfl⟩
 have hB0 : Below w.heap.size w W0 := by rw [hW0]; exact ((Below.refl _ _).alloc (Nat.le_refl _) _).alloc (by simp) _
 have hz0 : W0.heap.size = w.heap.size + 2 := by rw [hW0]; simp
 have hR0 : W0.heap[w.heap.size]? = some (.cells #[.int .i64 0, .slice none 0 0, .string ⟨#[]⟩, .string ⟨#[]⟩, .string ⟨#[]⟩, .string ⟨#[]⟩, .slice none 0 0] 25 (0, 0)) := by rw [hW0, Below.heap_alloc _ _ _ (by simp)]; exact heap_alloc_new w _
 have hE0 : W0.heap[w.heap.size + 1]? = some (.cells #[.int .i64 0] 34 (0, 0)) := by rw [hW0]; exact heap_alloc_new (w.alloc _) _ |> (by simpa using ·)
 have CK := Hd (HK W0 hB0 (by omega))
 have hmf : ∀ (fn : Fn) (first cap : Array Value) (w : World), (Instr.makeFunc fn first cap).run Tryz.prog w = .ok (.func fn first cap) w := fun _ _ _ _ => rfl
 clear HK
 replace hB0 := Hd hB0
 replace hz0 := Hd hz0
 replace hR0 := Hd hR0
 replace hE0 := Hd hE0
 go_enter_defers Tryz.func24, Tryz.ntmps24
 go_wp2_with fail
 rw [← hW0]
 replace hW0 := Hd hW0
 try go_wp2_with fail
 refine CK.out.mono ?_
 rintro en w3 ⟨rfl, hb3⟩
 have hR3 : w3.heap[w.heap.size]? = _ := (hb3.block _ (by have := hz0.out; omega)).trans hR0.out
 have hE3 : w3.heap[w.heap.size + 1]? = _ := (hb3.block _ (by have := hz0.out; omega)).trans hE0.out
 have hB3 := hB0.out.trans (hb3.mono (by have := hz0.out; omega))
 obtain ⟨W9, hW9⟩ : ∃ W9, W9 = w3.setCell ⟨w.heap.size + 1, 0, none⟩ (.int .i64 11) := ⟨_, rfl⟩
 have hC9 : W9.heap[w.heap.size]? = some (.cells #[.int .i64 0, .slice none 0 0, .string ⟨#[]⟩, .string ⟨#[]⟩, .string ⟨#[]⟩, .string ⟨#[]⟩, .slice none 0 0] 25 (0, 0)) := by rw [hW9, Below.heap_setCell _ _ _ _ (by show w.heap.size ≠ w.heap.size + 1; omega)]; exact hR3
 have hE9 : W9.heap[w.heap.size + 1]? = some (.cells #[.int .i64 11] 34 (0, 0)) := by rw [hW9]; exact set_one hE3
 have hB9 : Below w.heap.size w W9 := by rw [hW9]; exact hB3.setCell (by show w.heap.size ≤ w.heap.size + 1; omega) _
 obtain ⟨v0, v1, v2, v3, v4, v5, v6⟩ := cells7 hC9
 have v7 := cell_of_one hE9
 dsimp only []
 change Leaves _ _ _ _ _ _ _
 refine leaves_cons (f := 56) (args := #[.pointer (some ⟨w.heap.size + 1, 0, none⟩)]) (by simp) (by simp [go_sem]) ?_
 refine (catch14_pan _ [] w3 _ hE3).mono ?_
 rintro en u' w'' ⟨rfl, rfl, rfl⟩
 rw [← hW9]
 exact ⟨.tuple #[.agg #[.int .i64 0, .slice none 0 0, .string ⟨#[]⟩, .string ⟨#[]⟩, .string ⟨#[]⟩, .string ⟨#[]⟩, .slice none 0 0], .int .i64 11], by simp [results, Tryz.results24, go_sem, v0, v1, v2, v3, v4, v5, v6, v7], ⟨rfl, hB9⟩⟩
theorem outcome_ok_right {X : Option Addr → Nat → Option Addr → Nat → World → Prop} (f : Ft) (c : Addr) (w : World)
 (HK : ∀ W, Below w.heap.size w W → w.heap.size + 2 ≤ W.heap.size → Calls Tryz.prog 25 #[.pointer (some c)] W fun en w' => ∃ Ak ck Ab cb, en = .returned (ftV f Ak ck Ab cb) ∧ X Ak ck Ab cb w' ∧ Below W.heap.size W w')
 (hX : ∀ Ak ck Ab cb w' w'', X Ak ck Ab cb w' → (∀ k, k ≠ w.heap.size → k ≠ w.heap.size + 1 → w''.heap[k]? = w'.heap[k]?) → X Ak ck Ab cb w'') :
 Calls Tryz.prog 24 #[.func (.func 25) #[] #[.pointer (some c)]] w fun en w' => ∃ Ak ck Ab cb, en = .returned (.tuple #[ftV f Ak ck Ab cb, .int .i64 0]) ∧ X Ak ck Ab cb w' ∧ Below w.heap.size w w' := by
 obtain ⟨W0, hW0⟩ : ∃ W0, W0 = (w.alloc (.cells #[.int .i64 0, .slice none 0 0, .string ⟨#[]⟩, .string ⟨#[]⟩, .string ⟨#[]⟩, .string ⟨#[]⟩, .slice none 0 0] 25)).alloc (.cells #[.int .i64 0] 34) := ⟨_, rfl⟩
 have hB0 : Below w.heap.size w W0 := by rw [hW0]; exact ((Below.refl _ _).alloc (Nat.le_refl _) _).alloc (by simp) _
 have hz0 : W0.heap.size = w.heap.size + 2 := by rw [hW0]; simp
 have hR0 : W0.heap[w.heap.size]? = some (.cells #[.int .i64 0, .slice none 0 0, .string ⟨#[]⟩, .string ⟨#[]⟩, .string ⟨#[]⟩, .string ⟨#[]⟩, .slice none 0 0] 25 (0, 0)) := by rw [hW0, Below.heap_alloc _ _ _ (by simp)]; exact heap_alloc_new w _
 have hE0 : W0.heap[w.heap.size + 1]? = some (.cells #[.int .i64 0] 34 (0, 0)) := by rw [hW0]; exact heap_alloc_new (w.alloc _) _ |> (by simpa using ·)
 have CK := Hd (HK W0 hB0 (by omega))
 have hmf : ∀ (fn : Fn) (first cap : Array Value) (w : World), (Instr.makeFunc fn first cap).run Tryz.prog w = .ok (.func fn first cap) w := fun _ _ _ _ => rfl
 clear HK
 replace hX := Hd hX
 replace hB0 := Hd hB0
 replace hz0 := Hd hz0
 replace hR0 := Hd hR0
 replace hE0 := Hd hE0
 go_enter_defers Tryz.func24, Tryz.ntmps24
 go_wp2_with fail
 rw [← hW0]
 replace hW0 := Hd hW0
 try go_wp2_with fail
 refine CK.out.mono ?_
 rintro en w3 ⟨Ak, ck, Ab, cb, rfl, hx3, hb3⟩
 have hR3 := (hb3.block _ (by have := hz0.out; omega)).trans hR0.out
 have hE3 := (hb3.block _ (by have := hz0.out; omega)).trans hE0.out
 have hB3 := hB0.out.trans (hb3.mono (by have := hz0.out; omega))
 obtain ⟨r0, r1, r2, r3, r4, r5, r6⟩ := cells7 hR3
 have f0 := free7 hR3 0
 have f1 := free7 hR3 1
 have f2 := free7 hR3 2
 have f3 := free7 hR3 3
 have f4 := free7 hR3 4
 have f5 := free7 hR3 5
 have f6 := free7 hR3 6
 have e0 := cell_of_one hE3
 have e1 := free_of_one hE3
 have hne : w.heap.size + 1 ≠ w.heap.size := by omega
 replace hR3 := Hd hR3
 replace hE3 := Hd hE3
 replace hB3 := Hd hB3
 replace hb3 := Hd hb3
 replace hx3 := Hd hx3
 unfold ftV
 dsimp only []
 go_wp2_with fail
 obtain ⟨W8, hW8⟩ : ∃ W8, W8 = set7 w3 w.heap.size (.int .i64 f.k) (.slice Ak f.kids.length ck) (.string (baO f.t)) (.string (baO f.v)) (.string (baO f.a)) (.string (baO f.z)) (.slice Ab f.b.length cb) := ⟨_, rfl⟩
 have hC8 : W8.heap[w.heap.size]? = some (.cells #[.int .i64 f.k, .slice Ak f.kids.length ck, .string (baO f.t), .string (baO f.v), .string (baO f.a), .string (baO f.z), .slice Ab f.b.length cb] 25 (0, 0)) := by rw [hW8]; exact set7_same hR3.out (.int .i64 f.k) (.slice Ak f.kids.length ck) (.string (baO f.t)) (.string (baO f.v)) (.string (baO f.a)) (.string (baO f.z)) (.slice Ab f.b.length cb)
 have hE8 : W8.heap[w.heap.size + 1]? = some (.cells #[.int .i64 0] 34 (0, 0)) := by rw [hW8]; exact (set7_other _ _ _ _ _ _ _ hne).trans hE3.out
 have hN8 : ∀ k, k ≠ w.heap.size → W8.heap[k]? = w3.heap[k]? := fun k hk => by rw [hW8]; exact set7_other _ _ _ _ _ _ _ hk
 have hB8 : Below w.heap.size w W8 := by rw [hW8]; exact set7_below hB3.out (Nat.le_refl _) _ _ _ _ _ _ _
 have HX : (((((((w3.setCell ⟨w.heap.size, 0, none⟩ (.int .i64 f.k)).setCell ⟨w.heap.size, 1, none⟩ (.slice Ak f.kids.length ck)).setCell ⟨w.heap.size, 2, none⟩ (.string (baO f.t))).setCell ⟨w.heap.size, 3, none⟩ (.string (baO f.v))).setCell ⟨w.heap.size, 4, none⟩ (.string (baO f.a))).setCell ⟨w.heap.size, 5, none⟩ (.string (baO f.z))).setCell ⟨w.heap.size, 6, none⟩ (.slice Ab f.b.length cb)) = W8 := hW8.symm
 rw [HX]
 clear HX hW8
 obtain ⟨W9, hW9⟩ : ∃ W9, W9 = W8.setCell ⟨w.heap.size + 1, 0, none⟩ (.int .i64 0) := ⟨_, rfl⟩
 have hC9 : W9.heap[w.heap.size]? = some (.cells #[.int .i64 f.k, .slice Ak f.kids.length ck, .string (baO f.t), .string (baO f.v), .string (baO f.a), .string (baO f.z), .slice Ab f.b.length cb] 25 (0, 0)) := by rw [hW9, Below.heap_setCell _ _ _ _ (by show w.heap.size ≠ w.heap.size + 1; omega)]; exact hC8
 have hE9 : W9.heap[w.heap.size + 1]? = some (.cells #[.int .i64 0] 34 (0, 0)) := by rw [hW9]; exact set_one hE8
 have hN9 : ∀ k, k ≠ w.heap.size → k ≠ w.heap.size + 1 → W9.heap[k]? = w3.heap[k]? := fun k hk hk2 => by rw [hW9, Below.heap_setCell _ _ _ _ (by show k ≠ w.heap.size + 1; omega)]; exact hN8 k hk
 have hB9 : Below w.heap.size w W9 := by rw [hW9]; exact hB8.setCell (by show w.heap.size ≤ w.heap.size + 1; omega) _
 rw [← hW9]
 have hx9 := hX.out _ _ _ _ _ _ hx3.out hN9
 clear hW9 r0 r1 r2 r3 r4 r5 r6 f0 f1 f2 f3 f4 f5 f6 e0 e1
 obtain ⟨v0, v1, v2, v3, v4, v5, v6⟩ := cells7 hC9
 have v7 := cell_of_one hE9
 refine leaves_cons (f := 56) (args := #[.pointer (some ⟨w.heap.size + 1, 0, none⟩)]) (by simp) (by simp [go_sem]) ?_
 refine (catch14_idle _ _).mono ?_
 rintro e u' w'' ⟨rfl, rfl, rfl⟩
 exact ⟨.tuple #[.agg #[.int .i64 f.k, .slice Ak f.kids.length ck, .string (baO f.t), .string (baO f.v), .string (baO f.a), .string (baO f.z), .slice Ab f.b.length cb], .int .i64 0], by simp [results, Tryz.results24, go_sem, v0, v1, v2, v3, v4, v5, v6, v7], ⟨Ak, ck, Ab, cb, rfl, hx9, hB9⟩⟩
theorem outcome_no_right (c : Addr) (w : World)
 (HK : ∀ W, Below w.heap.size w W → w.heap.size + 2 ≤ W.heap.size → Calls Tryz.prog 25 #[.pointer (some c)] W fun en w' => en = bad14 ∧ Below W.heap.size W w') :
 Calls Tryz.prog 24 #[.func (.func 25) #[] #[.pointer (some c)]] w fun en w' => en = .returned (.tuple #[.agg #[.int .i64 0, .slice none 0 0, .string ⟨#[]⟩, .string ⟨#[]⟩, .string ⟨#[]⟩, .string ⟨#[]⟩, .slice none 0 0], .int .i64 11]) ∧ Below w.heap.size w w' := by
 obtain ⟨W0, hW0⟩ : ∃ W0, W0 = (w.alloc (.cells #[.int .i64 0, .slice none 0 0, .string ⟨#[]⟩, .string ⟨#[]⟩, .string ⟨#[]⟩, .string ⟨#[]⟩, .slice none 0 0] 25)).alloc (.cells #[.int .i64 0] 34) := ⟨_, rfl⟩
 have hB0 : Below w.heap.size w W0 := by rw [hW0]; exact ((Below.refl _ _).alloc (Nat.le_refl _) _).alloc (by simp) _
 have hz0 : W0.heap.size = w.heap.size + 2 := by rw [hW0]; simp
 have hR0 : W0.heap[w.heap.size]? = some (.cells #[.int .i64 0, .slice none 0 0, .string ⟨#[]⟩, .string ⟨#[]⟩, .string ⟨#[]⟩, .string ⟨#[]⟩, .slice none 0 0] 25 (0, 0)) := by rw [hW0, Below.heap_alloc _ _ _ (by simp)]; exact heap_alloc_new w _
 have hE0 : W0.heap[w.heap.size + 1]? = some (.cells #[.int .i64 0] 34 (0, 0)) := by rw [hW0]; exact heap_alloc_new (w.alloc _) _ |> (by simpa using ·)
 have CK := Hd (HK W0 hB0 (by omega))
 have hmf : ∀ (fn : Fn) (first cap : Array Value) (w : World), (Instr.makeFunc fn first cap).run Tryz.prog w = .ok (.func fn first cap) w := fun _ _ _ _ => rfl
 clear HK
 replace hB0 := Hd hB0
 replace hz0 := Hd hz0
 replace hR0 := Hd hR0
 replace hE0 := Hd hE0
 go_enter_defers Tryz.func24, Tryz.ntmps24
 go_wp2_with fail
 rw [← hW0]
 replace hW0 := Hd hW0
 try go_wp2_with fail
 refine CK.out.mono ?_
 rintro en w3 ⟨rfl, hb3⟩
 have hR3 : w3.heap[w.heap.size]? = _ := (hb3.block _ (by have := hz0.out; omega)).trans hR0.out
 have hE3 : w3.heap[w.heap.size + 1]? = _ := (hb3.block _ (by have := hz0.out; omega)).trans hE0.out
 have hB3 := hB0.out.trans (hb3.mono (by have := hz0.out; omega))
 obtain ⟨W9, hW9⟩ : ∃ W9, W9 = w3.setCell ⟨w.heap.size + 1, 0, none⟩ (.int .i64 11) := ⟨_, rfl⟩
 have hC9 : W9.heap[w.heap.size]? = some (.cells #[.int .i64 0, .slice none 0 0, .string ⟨#[]⟩, .string ⟨#[]⟩, .string ⟨#[]⟩, .string ⟨#[]⟩, .slice none 0 0] 25 (0, 0)) := by rw [hW9, Below.heap_setCell _ _ _ _ (by show w.heap.size ≠ w.heap.size + 1; omega)]; exact hR3
 have hE9 : W9.heap[w.heap.size + 1]? = some (.cells #[.int .i64 11] 34 (0, 0)) := by rw [hW9]; exact set_one hE3
 have hB9 : Below w.heap.size w W9 := by rw [hW9]; exact hB3.setCell (by show w.heap.size ≤ w.heap.size + 1; omega) _
 obtain ⟨v0, v1, v2, v3, v4, v5, v6⟩ := cells7 hC9
 have v7 := cell_of_one hE9
 dsimp only []
 change Leaves _ _ _ _ _ _ _
 refine leaves_cons (f := 56) (args := #[.pointer (some ⟨w.heap.size + 1, 0, none⟩)]) (by simp) (by simp [go_sem]) ?_
 refine (catch14_pan _ [] w3 _ hE3).mono ?_
 rintro en u' w'' ⟨rfl, rfl, rfl⟩
 rw [← hW9]
 exact ⟨.tuple #[.agg #[.int .i64 0, .slice none 0 0, .string ⟨#[]⟩, .string ⟨#[]⟩, .string ⟨#[]⟩, .string ⟨#[]⟩, .slice none 0 0], .int .i64 11], by simp [results, Tryz.results24, go_sem, v0, v1, v2, v3, v4, v5, v6, v7], ⟨rfl, hB9⟩⟩
theorem outcome_ok_read {X : Option Addr → Nat → Option Addr → Nat → World → Prop} (f : Ft) (c : Addr) (w : World)
 (HK : ∀ W, Below w.heap.size w W → w.heap.size + 2 ≤ W.heap.size → Calls Tryz.prog 32 #[.pointer (some c)] W fun en w' => ∃ Ak ck Ab cb, en = .returned (ftV f Ak ck Ab cb) ∧ X Ak ck Ab cb w' ∧ Below W.heap.size W w')
 (hX : ∀ Ak ck Ab cb w' w'', X Ak ck Ab cb w' → (∀ k, k ≠ w.heap.size → k ≠ w.heap.size + 1 → w''.heap[k]? = w'.heap[k]?) → X Ak ck Ab cb w'') :
 Calls Tryz.prog 24 #[.func (.func 32) #[] #[.pointer (some c)]] w fun en w' => ∃ Ak ck Ab cb, en = .returned (.tuple #[ftV f Ak ck Ab cb, .int .i64 0]) ∧ X Ak ck Ab cb w' ∧ Below w.heap.size w w' := by
 obtain ⟨W0, hW0⟩ : ∃ W0, W0 = (w.alloc (.cells #[.int .i64 0, .slice none 0 0, .string ⟨#[]⟩, .string ⟨#[]⟩, .string ⟨#[]⟩, .string ⟨#[]⟩, .slice none 0 0] 25)).alloc (.cells #[.int .i64 0] 34) := ⟨_, rfl⟩
 have hB0 : Below w.heap.size w W0 := by rw [hW0]; exact ((Below.refl _ _).alloc (Nat.le_refl _) _).alloc (by simp) _
 have hz0 : W0.heap.size = w.heap.size + 2 := by rw [hW0]; simp
 have hR0 : W0.heap[w.heap.size]? = some (.cells #[.int .i64 0, .slice none 0 0, .string ⟨#[]⟩, .string ⟨#[]⟩, .string ⟨#[]⟩, .string ⟨#[]⟩, .slice none 0 0] 25 (0, 0)) := by rw [hW0, Below.heap_alloc _ _ _ (by simp)]; exact heap_alloc_new w _
 have hE0 : W0.heap[w.heap.size + 1]? = some (.cells #[.int .i64 0] 34 (0, 0)) := by rw [hW0]; exact heap_alloc_new (w.alloc _) _ |> (by simpa using ·)
 have CK := Hd (HK W0 hB0 (by omega))
 have hmf : ∀ (fn : Fn) (first cap : Array Value) (w : World), (Instr.makeFunc fn first cap).run Tryz.prog w = .ok (.func fn first cap) w := fun _ _ _ _ => rfl
 clear HK
 replace hX := Hd hX
 replace hB0 := Hd hB0
 replace hz0 := Hd hz0
 replace hR0 := Hd hR0
 replace hE0 := Hd hE0
 go_enter_defers Tryz.func24, Tryz.ntmps24
 go_wp2_with fail
 rw [← hW0]
 replace hW0 := Hd hW0
 try go_wp2_with fail
 refine CK.out.mono ?_
 rintro en w3 ⟨Ak, ck, Ab, cb, rfl, hx3, hb3⟩
 have hR3 := (hb3.block _ (by have := hz0.out; omega)).trans hR0.out
 have hE3 := (hb3.block _ (by have := hz0.out; omega)).trans hE0.out
 have hB3 := hB0.out.trans (hb3.mono (by have := hz0.out; omega))
 obtain ⟨r0, r1, r2, r3, r4, r5, r6⟩ := cells7 hR3
 have f0 := free7 hR3 0
 have f1 := free7 hR3 1
 have f2 := free7 hR3 2
 have f3 := free7 hR3 3
 have f4 := free7 hR3 4
 have f5 := free7 hR3 5
 have f6 := free7 hR3 6
 have e0 := cell_of_one hE3
 have e1 := free_of_one hE3
 have hne : w.heap.size + 1 ≠ w.heap.size := by omega
 replace hR3 := Hd hR3
 replace hE3 := Hd hE3
 replace hB3 := Hd hB3
 replace hb3 := Hd hb3
 replace hx3 := Hd hx3
 unfold ftV
 dsimp only []
 go_wp2_with fail
 obtain ⟨W8, hW8⟩ : ∃ W8, W8 = set7 w3 w.heap.size (.int .i64 f.k) (.slice Ak f.kids.length ck) (.string (baO f.t)) (.string (baO f.v)) (.string (baO f.a)) (.string (baO f.z)) (.slice Ab f.b.length cb) := ⟨_, rfl⟩
 have hC8 : W8.heap[w.heap.size]? = some (.cells #[.int .i64 f.k, .slice Ak f.kids.length ck, .string (baO f.t), .string (baO f.v), .string (baO f.a), .string (baO f.z), .slice Ab f.b.length cb] 25 (0, 0)) := by rw [hW8]; exact set7_same hR3.out (.int .i64 f.k) (.slice Ak f.kids.length ck) (.string (baO f.t)) (.string (baO f.v)) (.string (baO f.a)) (.string (baO f.z)) (.slice Ab f.b.length cb)
 have hE8 : W8.heap[w.heap.size + 1]? = some (.cells #[.int .i64 0] 34 (0, 0)) := by rw [hW8]; exact (set7_other _ _ _ _ _ _ _ hne).trans hE3.out
 have hN8 : ∀ k, k ≠ w.heap.size → W8.heap[k]? = w3.heap[k]? := fun k hk => by rw [hW8]; exact set7_other _ _ _ _ _ _ _ hk
 have hB8 : Below w.heap.size w W8 := by rw [hW8]; exact set7_below hB3.out (Nat.le_refl _) _ _ _ _ _ _ _
 have HX : (((((((w3.setCell ⟨w.heap.size, 0, none⟩ (.int .i64 f.k)).setCell ⟨w.heap.size, 1, none⟩ (.slice Ak f.kids.length ck)).setCell ⟨w.heap.size, 2, none⟩ (.string (baO f.t))).setCell ⟨w.heap.size, 3, none⟩ (.string (baO f.v))).setCell ⟨w.heap.size, 4, none⟩ (.string (baO f.a))).setCell ⟨w.heap.size, 5, none⟩ (.string (baO f.z))).setCell ⟨w.heap.size, 6, none⟩ (.slice Ab f.b.length cb)) = W8 := hW8.symm
 rw [HX]
 clear HX hW8
 obtain ⟨W9, hW9⟩ : ∃ W9, W9 = W8.setCell ⟨w.heap.size + 1, 0, none⟩ (.int .i64 0) := ⟨_, rfl⟩
 have hC9 : W9.heap[w.heap.size]? = some (.cells #[.int .i64 f.k, .slice Ak f.kids.length ck, .string (baO f.t), .string (baO f.v), .string (baO f.a), .string (baO f.z), .slice Ab f.b.length cb] 25 (0, 0)) := by rw [hW9, Below.heap_setCell _ _ _ _ (by show w.heap.size ≠ w.heap.size + 1; omega)]; exact hC8
 have hE9 : W9.heap[w.heap.size + 1]? = some (.cells #[.int .i64 0] 34 (0, 0)) := by rw [hW9]; exact set_one hE8
 have hN9 : ∀ k, k ≠ w.heap.size → k ≠ w.heap.size + 1 → W9.heap[k]? = w3.heap[k]? := fun k hk hk2 => by rw [hW9, Below.heap_setCell _ _ _ _ (by show k ≠ w.heap.size + 1; omega)]; exact hN8 k hk
 have hB9 : Below w.heap.size w W9 := by rw [hW9]; exact hB8.setCell (by show w.heap.size ≤ w.heap.size + 1; omega) _
 rw [← hW9]
 have hx9 := hX.out _ _ _ _ _ _ hx3.out hN9
 clear hW9 r0 r1 r2 r3 r4 r5 r6 f0 f1 f2 f3 f4 f5 f6 e0 e1
 obtain ⟨v0, v1, v2, v3, v4, v5, v6⟩ := cells7 hC9
 have v7 := cell_of_one hE9
 refine leaves_cons (f := 56) (args := #[.pointer (some ⟨w.heap.size + 1, 0, none⟩)]) (by simp) (by simp [go_sem]) ?_
 refine (catch14_idle _ _).mono ?_
 rintro e u' w'' ⟨rfl, rfl, rfl⟩
 exact ⟨.tuple #[.agg #[.int .i64 f.k, .slice Ak f.kids.length ck, .string (baO f.t), .string (baO f.v), .string (baO f.a), .string (baO f.z), .slice Ab f.b.length cb], .int .i64 0], by simp [results, Tryz.results24, go_sem, v0, v1, v2, v3, v4, v5, v6, v7], ⟨Ak, ck, Ab, cb, rfl, hx9, hB9⟩⟩
end Go.Proofs.YtcbiedonmibfaaaGreatDoor
namespace Go.Proofs.YtcbiedonmibfaaaGreatDoor
open Go.RowKit Go.Lib
theorem parse1_any (f : Ft) (sp : Nat) (w : World) (hf : f.all = true) (hlen : f.text.length ≤ 4096) (hs : w.heap[sp]? = some (.cells #[.string (strB f.text)] 9 (0, 0))) :
 Calls Tryz.prog 29 #[.pointer (some ⟨sp, 0, none⟩)] w fun en w' => (f.right = true → ∃ Ak ck Ab cb, en = .returned (ftV f Ak ck Ab cb) ∧ FtIn w' (New w.heap.size w') f Ak ck Ab cb) ∧ (f.right = false → en = bad14) ∧ Below w.heap.size w w' := by
 have hsl := (Array.getElem?_eq_some_iff.1 hs).1
 have hright : Fits 1 f.num 64 f.deep ↔ f.right = true := by
  unfold Fits Ft.right
  rw [hf]
  simp only [Bool.and_true, Bool.and_eq_true, decide_eq_true_eq]
  omega
 obtain ⟨W0, hW0⟩ : ∃ W0, W0 = w.alloc (.cells #[.int .i64 0, .slice none 0 0, .string ⟨#[]⟩, .string ⟨#[]⟩, .string ⟨#[]⟩, .string ⟨#[]⟩, .slice none 0 0] 25) := ⟨_, rfl⟩
 have hB0 : Below w.heap.size w W0 := by rw [hW0]; exact (Below.refl _ _).alloc (Nat.le_refl _) _
 have hR0 : W0.heap[w.heap.size]? = some (.cells #[.int .i64 0, .slice none 0 0, .string ⟨#[]⟩, .string ⟨#[]⟩, .string ⟨#[]⟩, .string ⟨#[]⟩, .slice none 0 0] 25 (0, 0)) := by rw [hW0]; exact heap_alloc_new w _
 have hz0 : W0.heap.size = w.heap.size + 1 := by rw [hW0]; simp
 have s0 : ∀ o : Obj, (w.alloc o).cell? ⟨sp, 0, none⟩ = some (.string (strB f.text)) := fun o => cell_of_one ((Below.heap_alloc _ _ _ hsl).trans hs)
 obtain ⟨st, hst⟩ : ∃ s, s = strB f.text := ⟨_, rfl⟩
 rw [← hst] at s0
 obtain ⟨W1, hW1⟩ : ∃ W1, W1 = W0.alloc (.cells #[.string st, .int .i64 64] 78) := ⟨_, rfl⟩
 have hp1 : PAt W1 (w.heap.size + 1) (f.text ++ []) 64 := by
  have := heap_alloc_new W0 (.cells #[.string st, .int .i64 64] 78)
  rw [hz0, hst] at this
  rw [List.append_nil, hW1]
  unfold PAt
  rw [← this, hst]
 have hb1 : Below W0.heap.size W0 W1 := by rw [hW1]; exact (Below.refl _ _).alloc (Nat.le_refl _) _
 have hB1 : Below w.heap.size w W1 := hB0.trans (hb1.mono (by omega))
 have hR1 : W1.heap[w.heap.size]? = _ := (hb1.block _ (by omega)).trans hR0
 have hz1 : W1.heap.size = w.heap.size + 2 := by rw [hW1]; simp [hz0]
 have CF := Hd (filter_any f 1 64 [] (w.heap.size + 1) W1 hf (by omega) (by omega) (by omega) hp1 (fun c hc => by cases hc) (by simpa using hlen))
 have CD := Hd fun W => demand_ok W
 replace hs := Hd hs
 replace hf := Hd hf
 replace hright := Hd hright
 replace hB0 := Hd hB0
 replace hR0 := Hd hR0
 replace hz0 := Hd hz0
 replace hst := Hd hst
 replace hp1 := Hd hp1
 replace hb1 := Hd hb1
 replace hB1 := Hd hB1
 replace hR1 := Hd hR1
 replace hz1 := Hd hz1
 go_enter Tryz.func29, Tryz.ntmps29
 go_wp2_with fail
 rw [← hW0]
 replace hW0 := Hd hW0
 go_wp2_with fail
 rw [← hW1]
 replace hW1 := Hd hW1
 try rw [hz0.out]
 refine CF.out.mono ?_
 rintro en w2 ⟨hok, hno, hb2⟩
 have hR2 := hb2.heap hR1.out (by omega)
 have hB2 : Below w.heap.size w w2 := hB1.out.trans (hb2.below (by omega) (by have := hz1.out; omega))
 by_cases hr : f.right = true
 · obtain ⟨Ak, ck, Ab, cb, rfl, hin2, hp2⟩ := hok (hright.out.2 hr)
   clear hok hno
   have hz2 := hb2.size
   have hz3 := hz1.out
   unfold ftV
   dsimp only []
   have hps : w.heap.size + 1 ≠ w2.heap.size := by omega
   obtain ⟨p0, p1, _, _⟩ := cells2 (hp2.al (.cells #[.int .i64 f.k, .slice Ak f.kids.length ck, .string (baO f.t), .string (baO f.v), .string (baO f.a), .string (baO f.z), .slice Ab f.b.length cb] 25))
   have hnil : strB [] = (⟨#[]⟩ : ByteArray) := rfl
   rw [hnil] at p0
   have hX3 : (w2.alloc (.cells #[.int .i64 f.k, .slice Ak f.kids.length ck, .string (baO f.t), .string (baO f.v), .string (baO f.a), .string (baO f.z), .slice Ab f.b.length cb] 25)).heap[w2.heap.size]? = _ := heap_alloc_new w2 _
   have hR3 : (w2.alloc (.cells #[.int .i64 f.k, .slice Ak f.kids.length ck, .string (baO f.t), .string (baO f.v), .string (baO f.a), .string (baO f.z), .slice Ab f.b.length cb] 25)).heap[w.heap.size]? = _ := (Below.heap_alloc _ _ _ (by omega)).trans hR2
   have hB3 := hB2.alloc (by omega) (.cells #[.int .i64 f.k, .slice Ak f.kids.length ck, .string (baO f.t), .string (baO f.v), .string (baO f.a), .string (baO f.z), .slice Ab f.b.length cb] 25)
   have hin3 := hin2.but (But.of ((Below.refl w2.heap.size w2).alloc (Nat.le_refl _) (.cells #[.int .i64 f.k, .slice Ak f.kids.length ck, .string (baO f.t), .string (baO f.v), .string (baO f.a), .string (baO f.z), .slice Ab f.b.length cb] 25)) : But (w.heap.size + 1) w2 _) (by omega)
   replace hin2 := Hd hin2
   replace hp2 := Hd hp2
   replace hB2 := Hd hB2
   replace hR2 := Hd hR2
   replace hb2 := Hd hb2
   replace hB3 := Hd hB3
   replace hin3 := Hd hin3
   replace hX3 := Hd hX3
   replace hR3 := Hd hR3
   go_wp2_with fail
   refine (CD.out _).mono ?_
   rintro _ w7 ⟨rfl, h7⟩
   subst w7
   clear p0 p1
   dsimp only []
   generalize w2.alloc (.cells #[.int .i64 f.k, .slice Ak f.kids.length ck, .string (baO f.t), .string (baO f.v), .string (baO f.a), .string (baO f.z), .slice Ab f.b.length cb] 25) = W3 at hX3 hR3 hB3 hin3 ⊢
   obtain ⟨x0, x1, x2, x3, x4, x5, x6⟩ := cells7 hX3.out
   obtain ⟨r0, r1, r2, r3, r4, r5, r6⟩ := cells7 (hR3.out)
   have f0 := free7 (hR3.out) 0
   have f1 := free7 (hR3.out) 1
   have f2 := free7 (hR3.out) 2
   have f3 := free7 (hR3.out) 3
   have f4 := free7 (hR3.out) 4
   have f5 := free7 (hR3.out) 5
   have f6 := free7 (hR3.out) 6
   go_wp2_with fail
   clear x0 x1 x2 x3 x4 x5 x6
   have HC := Hd (set7_same (hR3.out) (.int .i64 f.k) (.slice Ak f.kids.length ck) (.string (baO f.t)) (.string (baO f.v)) (.string (baO f.a)) (.string (baO f.z)) (.slice Ab f.b.length cb))
   have HL := Hd (set7_below (hB3.out) (Nat.le_refl _) (.int .i64 f.k) (.slice Ak f.kids.length ck) (.string (baO f.t)) (.string (baO f.v)) (.string (baO f.a)) (.string (baO f.z)) (.slice Ab f.b.length cb))
   have HN := Hd (fun k (hk : k ≠ w.heap.size) => set7_other (w := W3) (b := w.heap.size) (.int .i64 f.k) (.slice Ak f.kids.length ck) (.string (baO f.t)) (.string (baO f.v)) (.string (baO f.a)) (.string (baO f.z)) (.slice Ab f.b.length cb) hk)
   have HX : set7 W3 (w.heap.size) (.int .i64 f.k) (.slice Ak f.kids.length ck) (.string (baO f.t)) (.string (baO f.v)) (.string (baO f.a)) (.string (baO f.z)) (.slice Ab f.b.length cb) = (((((((W3.setCell ⟨w.heap.size, 0, none⟩ (.int .i64 f.k)).setCell ⟨w.heap.size, 1, none⟩ (.slice Ak f.kids.length ck)).setCell ⟨w.heap.size, 2, none⟩ (.string (baO f.t))).setCell ⟨w.heap.size, 3, none⟩ (.string (baO f.v))).setCell ⟨w.heap.size, 4, none⟩ (.string (baO f.a))).setCell ⟨w.heap.size, 5, none⟩ (.string (baO f.z))).setCell ⟨w.heap.size, 6, none⟩ (.slice Ab f.b.length cb)) := rfl
   rw [← HX]
   obtain ⟨W9, hW9⟩ : ∃ W9, W9 = set7 W3 (w.heap.size) (.int .i64 f.k) (.slice Ak f.kids.length ck) (.string (baO f.t)) (.string (baO f.v)) (.string (baO f.a)) (.string (baO f.z)) (.slice Ab f.b.length cb) := ⟨_, rfl⟩
   rw [← hW9] at HC HL HN ⊢
   clear HX hW9 r0 r1 r2 r3 r4 r5 r6 f0 f1 f2 f3 f4 f5 f6
   obtain ⟨v0, v1, v2, v3, v4, v5, v6⟩ := cells7 HC.out
   exact bodyPost_ret (v := .agg #[.int .i64 f.k, .slice Ak f.kids.length ck, .string (baO f.t), .string (baO f.v), .string (baO f.a), .string (baO f.z), .slice Ab f.b.length cb]) (by simp [results, Tryz.results29, go_sem, v0, v1, v2, v3, v4, v5, v6]) rfl (⟨fun _ => ⟨Ak, ck, Ab, cb, rfl, (hin3.out.set HN.out (by omega)).more fun b hb => hb.mono (by omega) b⟩, (fun h => by rw [hr] at h; cases h), HL.out⟩)
 · have hrf : f.right = false := by simpa using hr
   obtain rfl := hno (fun h => hr (hright.out.1 h))
   dsimp only []
   exact ⟨rfl, (fun h => absurd h hr), (fun _ => rfl), hB2⟩
theorem parse14_any (f : Ft) (s : ByteArray) (w : World) (hf : f.all = true) (hs : s = strB f.text) :
 Calls Tryz.prog 11 #[.string s] w fun en w' => ∃ g Ak ck Ab cb, ∃ e : Int, en = .returned (.tuple #[ftV g Ak ck Ab cb, .int .i64 e]) ∧ FtIn w' (New w.heap.size w') g Ak ck Ab cb ∧ Below w.heap.size w w' ∧
  (4096 < f.text.length → e = 3) ∧ (f.text.length ≤ 4096 → f.right = true → e = 0 ∧ g = f) ∧ (f.text.length ≤ 4096 → f.right = false → e = 11) := by
 have hsz : s.size = f.text.length := by rw [hs, strB_sizeE]
 have hzero : ∀ W lo, FtIn W (New lo W) ⟨0, .nil, [], [], [], [], []⟩ none 0 none 0 := fun W lo => ⟨⟨Nat.le_refl _, by omega, fun _ => rfl, fun _ h => by cases h⟩, SrcS.none_ _ _⟩
 obtain ⟨W0, hW0⟩ : ∃ W0, W0 = (w.alloc (.cells #[.string s] 9)).alloc (.cells #[.int .i64 0, .slice none 0 0, .string ⟨#[]⟩, .string ⟨#[]⟩, .string ⟨#[]⟩, .string ⟨#[]⟩, .slice none 0 0] 25) := ⟨_, rfl⟩
 have hB0 : Below w.heap.size w W0 := by rw [hW0]; exact ((Below.refl _ _).alloc (Nat.le_refl _) _).alloc (by simp) _
 have hz0 : W0.heap.size = w.heap.size + 2 := by rw [hW0]; simp
 have hS0 : W0.heap[w.heap.size]? = some (.cells #[.string s] 9 (0, 0)) := by rw [hW0, Below.heap_alloc _ _ _ (by simp)]; exact heap_alloc_new w _
 have hR0 : W0.heap[w.heap.size + 1]? = some (.cells #[.int .i64 0, .slice none 0 0, .string ⟨#[]⟩, .string ⟨#[]⟩, .string ⟨#[]⟩, .string ⟨#[]⟩, .slice none 0 0] 25 (0, 0)) := by rw [hW0]; exact heap_alloc_new (w.alloc _) _ |> (by simpa using ·)
 have s0 := cell_of_one hS0
 have hmf : ∀ (fn : Fn) (first cap : Array Value) (w : World), (Instr.makeFunc fn first cap).run Tryz.prog w = .ok (.func fn first cap) w := fun _ _ _ _ => rfl
 by_cases hbig : 4096 < f.text.length
 · have k1 : decide ((4096 : Int) < (s.size : Int)) = true := decide_eq_true (by omega)
   obtain ⟨r0, r1, r2, r3, r4, r5, r6⟩ := cells7 (hR0)
   have f0 := free7 (hR0) 0
   have f1 := free7 (hR0) 1
   have f2 := free7 (hR0) 2
   have f3 := free7 (hR0) 3
   have f4 := free7 (hR0) 4
   have f5 := free7 (hR0) 5
   have f6 := free7 (hR0) 6
   replace hB0 := Hd hB0
   replace hS0 := Hd hS0
   replace hR0 := Hd hR0
   replace hz0 := Hd hz0
   replace hsz := Hd hsz
   replace hs := Hd hs
   replace hzero := Hd hzero
   go_enter Tryz.func11, Tryz.ntmps11
   go_wp2_with fail
   rw [← hW0]
   replace hW0 := Hd hW0
   try go_wp2_with fail
   exact bodyPost_ret (v := .tuple #[.agg #[.int .i64 0, .slice none 0 0, .string ⟨#[]⟩, .string ⟨#[]⟩, .string ⟨#[]⟩, .string ⟨#[]⟩, .slice none 0 0], .int .i64 3]) (by simp [results, Tryz.results11, go_sem, r0, r1, r2, r3, r4, r5, r6]) rfl ⟨⟨0, .nil, [], [], [], [], []⟩, none, 0, none, 0, 3, rfl, hzero.out _ _, hB0.out, fun _ => rfl, fun h => by omega, fun h => by omega⟩
 · have k1 : decide ((4096 : Int) < (s.size : Int)) = false := decide_eq_false (by omega)
   have CP := fun W (hW : Below W0.heap.size W0 W) => parse1_any f w.heap.size W hf (by omega) (by rw [hW.block _ (by omega), hS0, hs])
   by_cases hr : f.right = true
   · have CO := Hd (outcome_ok_parse (X := fun Ak ck Ab cb w' => FtIn w' (New (W0.heap.size + 2) w') f Ak ck Ab cb) f ⟨w.heap.size, 0, none⟩ W0 (fun W hW hWs => (CP W hW).mono fun en w' (h : _) => by
      obtain ⟨Ak, ck, Ab, cb, h1, h2⟩ := h.1 hr
      exact ⟨Ak, ck, Ab, cb, h1, h2.more fun b hb => hb.mono hWs b, h.2.2⟩)
      (fun Ak ck Ab cb w' w'' h hk => (h.keep fun q hq => World.cell?_of_block (hk _ (by have := hq.1; omega) (by have := hq.1; omega))).more fun b hb => ⟨hb.1, hb.2.of (hk _ (by have := hb.1; omega) (by have := hb.1; omega))⟩))
     clear CP
     replace hB0 := Hd hB0
     replace hS0 := Hd hS0
     replace hR0 := Hd hR0
     replace hsz := Hd hsz
     replace hs := Hd hs
     replace hzero := Hd hzero
     replace hr := Hd hr
     replace hf := Hd hf
     replace hz0 := Hd hz0
     go_enter Tryz.func11, Tryz.ntmps11
     go_wp2_with fail
     rw [← hW0]
     replace hW0 := Hd hW0
     try go_wp2_with fail
     refine CO.out.mono ?_
     rintro _ w2 ⟨Ak, ck, Ab, cb, rfl, hin2, hb2⟩
     have hB2 : Below w.heap.size w w2 := hB0.out.trans (hb2.mono (by have := hz0.out; omega))
     have hR2 : w2.heap[w.heap.size + 1]? = _ := (hb2.block _ (by have := hz0.out; omega)).trans hR0.out
     have hz3 := hz0.out
     replace hin2 := Hd hin2
     replace hB2 := Hd hB2
     replace hb2 := Hd hb2
     replace hz3 := Hd hz3
     unfold ftV
     dsimp only []
     obtain ⟨r0, r1, r2, r3, r4, r5, r6⟩ := cells7 (hR2)
     have f0 := free7 (hR2) 0
     have f1 := free7 (hR2) 1
     have f2 := free7 (hR2) 2
     have f3 := free7 (hR2) 3
     have f4 := free7 (hR2) 4
     have f5 := free7 (hR2) 5
     have f6 := free7 (hR2) 6
     replace hR2 := Hd hR2
     go_wp2_with fail
     have HC := Hd (set7_same (hR2.out) (.int .i64 f.k) (.slice Ak f.kids.length ck) (.string (baO f.t)) (.string (baO f.v)) (.string (baO f.a)) (.string (baO f.z)) (.slice Ab f.b.length cb))
     have HL := Hd (set7_below (hB2.out) (Nat.le_succ _) (.int .i64 f.k) (.slice Ak f.kids.length ck) (.string (baO f.t)) (.string (baO f.v)) (.string (baO f.a)) (.string (baO f.z)) (.slice Ab f.b.length cb))
     have HN := Hd (fun k (hk : k ≠ w.heap.size + 1) => set7_other (w := w2) (b := w.heap.size + 1) (.int .i64 f.k) (.slice Ak f.kids.length ck) (.string (baO f.t)) (.string (baO f.v)) (.string (baO f.a)) (.string (baO f.z)) (.slice Ab f.b.length cb) hk)
     have HX : set7 w2 (w.heap.size + 1) (.int .i64 f.k) (.slice Ak f.kids.length ck) (.string (baO f.t)) (.string (baO f.v)) (.string (baO f.a)) (.string (baO f.z)) (.slice Ab f.b.length cb) = (((((((w2.setCell ⟨w.heap.size + 1, 0, none⟩ (.int .i64 f.k)).setCell ⟨w.heap.size + 1, 1, none⟩ (.slice Ak f.kids.length ck)).setCell ⟨w.heap.size + 1, 2, none⟩ (.string (baO f.t))).setCell ⟨w.heap.size + 1, 3, none⟩ (.string (baO f.v))).setCell ⟨w.heap.size + 1, 4, none⟩ (.string (baO f.a))).setCell ⟨w.heap.size + 1, 5, none⟩ (.string (baO f.z))).setCell ⟨w.heap.size + 1, 6, none⟩ (.slice Ab f.b.length cb)) := rfl
     rw [← HX]
     obtain ⟨W9, hW9⟩ : ∃ W9, W9 = set7 w2 (w.heap.size + 1) (.int .i64 f.k) (.slice Ak f.kids.length ck) (.string (baO f.t)) (.string (baO f.v)) (.string (baO f.a)) (.string (baO f.z)) (.slice Ab f.b.length cb) := ⟨_, rfl⟩
     rw [← hW9] at HC HL HN ⊢
     clear HX hW9 r0 r1 r2 r3 r4 r5 r6 f0 f1 f2 f3 f4 f5 f6
     obtain ⟨v0, v1, v2, v3, v4, v5, v6⟩ := cells7 HC.out
     exact bodyPost_ret (v := .tuple #[.agg #[.int .i64 f.k, .slice Ak f.kids.length ck, .string (baO f.t), .string (baO f.v), .string (baO f.a), .string (baO f.z), .slice Ab f.b.length cb], .int .i64 0]) (by simp [results, Tryz.results11, go_sem, v0, v1, v2, v3, v4, v5, v6]) rfl (⟨f, Ak, ck, Ab, cb, 0, rfl, (hin2.out.set HN.out (by have := hz3.out; omega)).more fun b hb => hb.mono (by have := hz3.out; omega) b, HL.out, fun h => by omega, fun _ _ => ⟨rfl, rfl⟩, fun _ h => by rw [hr.out] at h; cases h⟩)
   · have hrf : f.right = false := by simpa using hr
     have CO := Hd (outcome_no_parse ⟨w.heap.size, 0, none⟩ W0 (fun W hW hWs => (CP W hW).mono fun en w' (h : _) => ⟨h.2.1 hrf, h.2.2⟩))
     clear CP
     replace hB0 := Hd hB0
     replace hS0 := Hd hS0
     replace hR0 := Hd hR0
     replace hsz := Hd hsz
     replace hs := Hd hs
     replace hzero := Hd hzero
     replace hr := Hd hr
     replace hrf := Hd hrf
     replace hf := Hd hf
     replace hz0 := Hd hz0
     go_enter Tryz.func11, Tryz.ntmps11
     go_wp2_with fail
     rw [← hW0]
     replace hW0 := Hd hW0
     try go_wp2_with fail
     refine CO.out.mono ?_
     rintro _ w2 ⟨rfl, hb2⟩
     have hB2 : Below w.heap.size w w2 := hB0.out.trans (hb2.mono (by have := hz0.out; omega))
     have hR2 : w2.heap[w.heap.size + 1]? = _ := (hb2.block _ (by have := hz0.out; omega)).trans hR0.out
     replace hB2 := Hd hB2
     replace hb2 := Hd hb2
     dsimp only []
     obtain ⟨r0, r1, r2, r3, r4, r5, r6⟩ := cells7 (hR2)
     have f0 := free7 (hR2) 0
     have f1 := free7 (hR2) 1
     have f2 := free7 (hR2) 2
     have f3 := free7 (hR2) 3
     have f4 := free7 (hR2) 4
     have f5 := free7 (hR2) 5
     have f6 := free7 (hR2) 6
     replace hR2 := Hd hR2
     go_wp2_with fail
     have HC := Hd (set7_same (hR2.out) (.int .i64 0) (.slice none 0 0) (.string ⟨#[]⟩) (.string ⟨#[]⟩) (.string ⟨#[]⟩) (.string ⟨#[]⟩) (.slice none 0 0))
     have HL := Hd (set7_below (hB2.out) (Nat.le_succ _) (.int .i64 0) (.slice none 0 0) (.string ⟨#[]⟩) (.string ⟨#[]⟩) (.string ⟨#[]⟩) (.string ⟨#[]⟩) (.slice none 0 0))
     have HN := Hd (fun k (hk : k ≠ w.heap.size + 1) => set7_other (w := w2) (b := w.heap.size + 1) (.int .i64 0) (.slice none 0 0) (.string ⟨#[]⟩) (.string ⟨#[]⟩) (.string ⟨#[]⟩) (.string ⟨#[]⟩) (.slice none 0 0) hk)
     have HX : set7 w2 (w.heap.size + 1) (.int .i64 0) (.slice none 0 0) (.string ⟨#[]⟩) (.string ⟨#[]⟩) (.string ⟨#[]⟩) (.string ⟨#[]⟩) (.slice none 0 0) = (((((((w2.setCell ⟨w.heap.size + 1, 0, none⟩ (.int .i64 0)).setCell ⟨w.heap.size + 1, 1, none⟩ (.slice none 0 0)).setCell ⟨w.heap.size + 1, 2, none⟩ (.string ⟨#[]⟩)).setCell ⟨w.heap.size + 1, 3, none⟩ (.string ⟨#[]⟩)).setCell ⟨w.heap.size + 1, 4, none⟩ (.string ⟨#[]⟩)).setCell ⟨w.heap.size + 1, 5, none⟩ (.string ⟨#[]⟩)).setCell ⟨w.heap.size + 1, 6, none⟩ (.slice none 0 0)) := rfl
     rw [← HX]
     obtain ⟨W9, hW9⟩ : ∃ W9, W9 = set7 w2 (w.heap.size + 1) (.int .i64 0) (.slice none 0 0) (.string ⟨#[]⟩) (.string ⟨#[]⟩) (.string ⟨#[]⟩) (.string ⟨#[]⟩) (.slice none 0 0) := ⟨_, rfl⟩
     rw [← hW9] at HC HL HN ⊢
     clear HX hW9 r0 r1 r2 r3 r4 r5 r6 f0 f1 f2 f3 f4 f5 f6
     obtain ⟨v0, v1, v2, v3, v4, v5, v6⟩ := cells7 HC.out
     exact bodyPost_ret (v := .tuple #[.agg #[.int .i64 0, .slice none 0 0, .string ⟨#[]⟩, .string ⟨#[]⟩, .string ⟨#[]⟩, .string ⟨#[]⟩, .slice none 0 0], .int .i64 11]) (by simp [results, Tryz.results11, go_sem, v0, v1, v2, v3, v4, v5, v6]) rfl (⟨⟨0, .nil, [], [], [], [], []⟩, none, 0, none, 0, 11, rfl, hzero.out _ _, HL.out, fun h => by omega, fun _ h => absurd h hr.out, fun _ _ => rfl⟩)
end Go.Proofs.YtcbiedonmibfaaaGreatDoor
