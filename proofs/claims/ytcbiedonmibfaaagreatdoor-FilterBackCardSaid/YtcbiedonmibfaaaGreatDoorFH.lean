/-
  What the program's functions of filters and elements are to answer, for the laws' walks.
-/
import Derived.Test.YtcbiedonmibfaaaGreatDoorFltOwn
import Derived.Test.YtcbiedonmibfaaaGreatDoorST
import Derived.Test.YtcbiedonmibfaaaGreatDoorFE
import Derived.Test.YtcbiedonmibfaaaGreatDoorBerH3
namespace Go.Proofs.YtcbiedonmibfaaaGreatDoor
open Go.RowKit
def ParseP (f : Ft) (W : World) (en : Ending) (w' : World) : Prop :=
 ∃ g Ak ck Ab cb, ∃ e : Int, en = .returned (.tuple #[ftV g Ak ck Ab cb, .int .i64 e]) ∧ FtIn w' (· < w'.heap.size) g Ak ck Ab cb ∧ Below W.heap.size W w' ∧
  (4096 < f.text.length → e = 3) ∧ (f.text.length ≤ 4096 → f.right = true → e = 0 ∧ g = f) ∧ (f.text.length ≤ 4096 → f.right = false → e = 11)
structure ParseH (w0 : World) : Prop where
 parse : ∀ (f : Ft) (s : ByteArray) (W : World), Below w0.heap.size w0 W → f.all = true → f.meas ≤ 8000 → s = strB f.text → Calls Tryz.prog 11 #[.string s] W (ParseP f W)
structure TextH (w0 : World) : Prop where
 text : ∀ (f : Ft) (Ak : Option Addr) (ck : Nat) (Ab : Option Addr) (cb : Nat) (W : World), Below w0.heap.size w0 W → FtIn W (· < W.heap.size) f Ak ck Ab cb → f.meas < 3000 → f.deep ≤ 41 →
  Calls Tryz.prog 10 #[ftV f Ak ck Ab cb] W fun en w' => en = .returned (.string (if f.right = true then strB f.text else ⟨#[]⟩)) ∧ Below W.heap.size W w'
structure RightH14 (w0 : World) : Prop where
 right : ∀ (f : Ft) (Ak : Option Addr) (ck : Nat) (Ab : Option Addr) (cb : Nat) (W : World), Below w0.heap.size w0 W → FtIn W (· < W.heap.size) f Ak ck Ab cb → f.meas < 3000 → f.deep ≤ 41 →
  Calls Tryz.prog 9 #[ftV f Ak ck Ab cb] W fun en w' => en = .returned (.bool f.right) ∧ Below W.heap.size W w'
structure ParseHZ (w0 : World) : Prop where
 parse : ∀ (f : Ft) (s : ByteArray) (W : World), Below w0.heap.size w0 W → f.all = true → f.meas ≤ 8000 → s = strB f.text →
  Calls Tryz.prog 11 #[.string s] W fun en w' => ∃ g Ak ck Ab cb, ∃ e : Int, en = .returned (.tuple #[ftV g Ak ck Ab cb, .int .i64 e]) ∧ FtInZ w' g Ak ck Ab cb ∧ Below W.heap.size W w' ∧
  (4096 < f.text.length → e = 3) ∧ (f.text.length ≤ 4096 → f.right = true → e = 0 ∧ g = f) ∧ (f.text.length ≤ 4096 → f.right = false → e = 11)
structure SameH14 (w0 : World) : Prop where
 same : ∀ (f : Ft) (Ak Ak' : Option Addr) (ck ck' : Nat) (Ab Ab' : Option Addr) (cb cb' : Nat) (W : World), Below w0.heap.size w0 W → FtInZ W f Ak ck Ab cb → FtInZ W f Ak' ck' Ab' cb' → f.meas < 3000 → f.deep ≤ 41 →
  Calls Tryz.prog 16 #[ftV f Ak ck Ab cb, ftV f Ak' ck' Ab' cb'] W fun en w' => en = .returned (.bool true) ∧ Below W.heap.size W w'
structure PutH14 (w0 : World) : Prop where
 put : ∀ (f : Ft) (Ak : Option Addr) (ck : Nat) (Ab : Option Addr) (cb : Nat) (W : World), Below w0.heap.size w0 W → FtIn W (· < W.heap.size) f Ak ck Ab cb → f.meas < 3000 → f.right = true →
  Calls Tryz.prog 13 #[ftV f Ak ck Ab cb] W fun en w' => ∃ A c B d, en = .returned (elV f.el A c B d) ∧ ElIn w' (Cb w') f.el A c B d ∧ Below W.heap.size W w'
structure ReadH14 (w0 : World) : Prop where
 read : ∀ (f : Ft) (A : Option Addr) (c : Nat) (B : Option Addr) (d : Nat) (W : World), Below w0.heap.size w0 W → ElIn W (Cb W) f.el A c B d → f.meas < 3000 → f.right = true →
  Calls Tryz.prog 12 #[elV f.el A c B d] W fun en w' => ∃ Ak ck Ab cb, en = .returned (.tuple #[ftV f Ak ck Ab cb, .int .i64 0]) ∧ FtInZ w' f Ak ck Ab cb ∧ Below W.heap.size W w'
structure BPutH (w0 : World) : Prop where
 bput : ∀ (e : El) (A : Option Addr) (c : Nat) (B : Option Addr) (d : Nat) (W : World), Below w0.heap.size w0 W → ElIn W (Cb W) e A c B d → e.right = true → e.deep ≤ 24 → e.enc.length ≤ 16384 → e.size ≤ 1000000 →
  Calls Tryz.prog 14 #[elV e A c B d] W fun en w' => ∃ A' c', en = .returned (.tuple #[.slice A' e.enc.length c', .int .i64 0]) ∧ Src w' w'.heap.size A' c' e.enc ∧ c' ≤ 9223372036854775807 ∧ Below W.heap.size W w'
structure BParseH (w0 : World) : Prop where
 bparse : ∀ (e : El) (A : Option Addr) (c : Nat) (W : World), Below w0.heap.size w0 W → Src W W.heap.size A c e.enc → c ≤ 9223372036854775807 → e.right = true → e.byt → e.deep ≤ 24 → e.enc.length ≤ 16384 →
  Calls Tryz.prog 15 #[.slice A e.enc.length c] W fun en w' => ∃ A' c' B' d', en = .returned (.tuple #[elV e A' c' B' d', .int .i64 (e.enc.length : Int), .int .i64 0]) ∧ ElIn w' (Cb w') e A' c' B' d' ∧ Below W.heap.size W w'
theorem right_parts14 {f : Ft} (h : f.right = true) : f.num ≤ 64 ∧ f.deep ≤ 10 ∧ f.all = true := by
 unfold Ft.right at h
 simp only [Bool.and_eq_true, decide_eq_true_eq] at h
 exact ⟨h.1.1, h.1.2, h.2⟩
theorem all_parts {f : Ft} (h : f.all = true) : f.one = true ∧ f.g.all = true := by
 unfold Ft.all at h
 rwa [Bool.and_eq_true] at h
theorem el_right {f : Ft} (h : f.all = true) : f.el.right = true := ft_el_right (all_parts h).1 (gl_el_right _ (all_parts h).2)
theorem el_byt (f : Ft) : f.el.byt := ft_el_byt f (gl_el_byt _)
theorem el_deep (f : Ft) : f.el.deep ≤ f.deep + 2 := ft_el_deep f (gl_el_deep _)
theorem el_enc {f : Ft} (h : f.all = true) (hm : f.meas ≤ 8000) : f.el.enc.length ≤ 2 * f.meas := ft_enc (all_parts h).1 hm (gl_enc _ (all_parts h).2 (by unfold Ft.meas at hm; omega))
theorem fo_size_enc : ∀ f : Fo, f.right = true → f.size ≤ 2 * f.enc.length
 | .nil, _ => Nat.zero_le _
 | .cons c m n b k nx, h => by
   rw [Fo.right, Bool.and_eq_true, Bool.and_eq_true, Bool.and_eq_true, Bool.and_eq_true] at h
   obtain ⟨⟨⟨⟨_, h2⟩, h3⟩, h4⟩, h5⟩ := h
   have i1 := fo_size_enc k h4
   have i2 := fo_size_enc nx h5
   have t := tagB_pos c n m
   rw [Fo.size, Fo.enc, List.length_append, List.length_append, List.length_append]
   cases m with
   | true =>
     have hb : b = [] := by simpa using h3
     subst hb
     simp only [if_true, List.length_nil]
     omega
   | false =>
     have hk : k = .nil := by
      have : k.list = [] := by simpa using h2
      have h6 := Fo.of_list k
      rw [this] at h6
      exact h6.symm
     subst hk
     simp only [Fo.size, Bool.false_eq_true, if_false]
     omega
theorem el_size_enc {e : El} (h : e.right = true) : e.size ≤ 2 * e.enc.length := by
 have h1 : (Fo.of [e]).right = true := by rw [Fo.right_list, Fo.list_of]; simpa using h
 have := fo_size_enc _ h1
 rw [Fo.size_list, Fo.enc_list, Fo.list_of] at this
 simpa [sumL] using this
theorem text_len (f : Ft) : 2 < f.text.length ∨ f.all = false := by
 by_cases h : f.all = true
 · left
   unfold Ft.text Ft.body
   split
   · simp
   · have h1 := leaf_ok (all_parts h).1 ‹_›
     have h2 := dsc_ne h1.t
     have : 0 < f.leaf.length := by
      unfold Ft.leaf
      rw [List.length_append, nb_len]
      have : 0 < f.t.length := List.length_pos_iff.2 h2
      omega
     simp
     omega
 · right
   simpa using h
end Go.Proofs.YtcbiedonmibfaaaGreatDoor
namespace Go.Proofs.YtcbiedonmibfaaaGreatDoor
open Go.RowKit
def exSn : Ft := ⟨4, .nil, [115, 110], [], [98], [], []⟩
def exNot : Ft := ⟨2, Gl.of [exSn], [], [], [], [], []⟩
def exCn : Ft := ⟨3, .nil, [99, 110], [97], [], [], []⟩
def exF : Ft := ⟨0, Gl.of [exCn, exNot], [], [], [], [], []⟩
theorem ex_text : exF.text = [40, 38, 40, 99, 110, 61, 97, 41, 40, 33, 40, 115, 110, 61, 98, 42, 41, 41, 41] := by decide +kernel
theorem ex_right : exF.right = true := by decide +kernel
theorem ex_all : exF.all = true := (right_parts14 ex_right).2.2
theorem ex_str : (⟨#[40, 38, 40, 99, 110, 61, 97, 41, 40, 33, 40, 115, 110, 61, 98, 42, 41, 41, 41]⟩ : ByteArray) = strB exF.text := by
 rw [ex_text]
 decide +kernel
set_option maxRecDepth 8000 in
set_option maxHeartbeats 800000 in
theorem one_any (w0 W : World) (H : ParseH w0) (hW : Below w0.heap.size w0 W) :
 Calls Tryz.prog 8 #[] W fun en w' => en = .returned (.bool true) ∧ Below W.heap.size W w' := by
 have C := Hd (H.parse exF _ W hW ex_all (by decide +kernel) ex_str)
 go_enter Tryz.func8, Tryz.ntmps8
 go_wp2_with fail
 refine C.out.mono ?_
 rintro en w1 ⟨g, Ak, ck, Ab, cb, e, rfl, hin, hb, _, h1, _⟩
 obtain ⟨rfl, rfl⟩ := h1 (by rw [ex_text]; decide) ex_right
 clear C
 obtain ⟨bl, off, rfl, hbl, hkid⟩ := hin.kid (by decide)
 obtain ⟨Ak2, ck2, Ab2, cb2, hat, hkin⟩ := hkid 1 (by decide)
 have hat' : FtAt w1 exNot bl (off + 7) Ak2 ck2 Ab2 cb2 := hat
 have hkin' : FtIn w1 (· < w1.heap.size) exNot Ak2 ck2 Ab2 cb2 := hkin
 obtain ⟨bl2, off2, rfl, hbl2, hkid2⟩ := hkin'.kid (by decide)
 obtain ⟨Ak3, ck3, Ab3, cb3, hat3, _⟩ := hkid2 0 (by decide)
 have hat3' : FtAt w1 exSn bl2 (off2 + 0 * 7) Ak3 ck3 Ab3 cb3 := hat3
 rw [show off2 + 0 * 7 = off2 from by omega] at hat3'
 have c1 := hat'.g
 have c2 := hat3'.a
 have kl : exF.kids.length = 2 := by decide
 have kl2 : exNot.kids.length = 1 := by decide
 have hle := hin.g.le
 have hle2 := hkin'.g.le
 have kl3 : exF.g.list.length = 2 := by decide
 have kl4 : exNot.g.list.length = 1 := by decide
 rw [kl2] at c1
 rw [kl3] at hle
 rw [kl4] at hle2
 have d1 : ∀ o : Obj, (w1.alloc o).cell? ⟨bl, off + 7 + 1, none⟩ = some (.slice (some ⟨bl2, off2, none⟩) 1 ck2) := fun o => (World.cell?_alloc_lt _ _ _ hbl).trans c1
 have d2 : ∀ o : Obj, (w1.alloc o).cell? ⟨bl2, off2 + 4, none⟩ = some (.string ⟨#[98]⟩) := fun o => (World.cell?_alloc_lt _ _ _ hbl2).trans c2
 have hv : ftV exF (some ⟨bl, off, none⟩) ck Ab cb = .agg #[.int .i64 0, .slice (some ⟨bl, off, none⟩) 2 ck, .string ⟨#[]⟩, .string ⟨#[]⟩, .string ⟨#[]⟩, .string ⟨#[]⟩, .slice Ab 0 cb] := by
  unfold ftV
  rw [kl]
  rfl
 rw [hv]
 replace hin := Hd hin
 replace hkin := Hd hkin
 replace hkin' := Hd hkin'
 clear hat hat' hat3 hat3' hkid hkid2 c1 c2 hv kl kl2 kl3 kl4
 replace hb := Hd hb
 dsimp only []
 go_wp2_with fail
 go_ret
 exact ⟨rfl, hb.out.alloc hb.out.size _⟩
end Go.Proofs.YtcbiedonmibfaaaGreatDoor
namespace Go.Proofs.YtcbiedonmibfaaaGreatDoor
open Go.RowKit
theorem heap_al {W : World} {b : Nat} {x : Obj} (h : W.heap[b]? = some x) (o : Obj) : (W.alloc o).heap[b]? = some x := (Below.heap_alloc _ _ _ (Array.getElem?_eq_some_iff.1 h).1).trans h
theorem heap_be {W W' : World} {b : Nat} {x : Obj} (hb : Below W.heap.size W W') (h : W.heap[b]? = some x) : W'.heap[b]? = some x := (hb.block b (Array.getElem?_eq_some_iff.1 h).1).trans h
theorem ElIn.go {W W' : World} {e : El} {A : Option Addr} {c : Nat} {B : Option Addr} {d : Nat} (h : ElIn W (Cb W) e A c B d) (hb : Below W.heap.size W W') : ElIn W' (Cb W') e A c B d := (h.keep fun _ hp => hb.cell hp.lt).more fun _ hp => hp.below hb hp.lt
theorem strB_size14 (l : List Nat) : (strB l).size = l.length := by
 have := congrArg List.length (strB_list l)
 rw [List.length_map] at this
 simpa using this
theorem al_be (W : World) (o : Obj) : Below W.heap.size W (W.alloc o) := (Below.refl _ _).alloc (Nat.le_refl _) o
set_option maxRecDepth 8000 in
set_option maxHeartbeats 1600000 in
theorem fback_walk (f : Ft) (Ak : Option Addr) (ck : Nat) (Ab : Option Addr) (cb : Nat) (w : World) (HP : ParseH w) (HPZ : ParseHZ w) (HT : TextH w) (HR : RightH14 w) (HS : SameH14 w) (HU : PutH14 w) (HD : ReadH14 w) (HBP : BPutH w) (HBR : BParseH w)
 (hin : FtInZ w f Ak ck Ab cb) :
 Calls Tryz.prog 3 #[ftV f Ak ck Ab cb] w fun en w' => en = .returned (.bool true) ∧ Below w.heap.size w w' := by
 unfold ftV
 obtain ⟨W1, hW1⟩ : ∃ W1, W1 = w.alloc (.cells #[.int .i64 f.k, .slice Ak f.kids.length ck, .string (baO f.t), .string (baO f.v), .string (baO f.a), .string (baO f.z), .slice Ab f.b.length cb] 25) := ⟨_, rfl⟩
 have hb1 : Below w.heap.size w W1 := by rw [hW1]; exact al_be w _
 have hX1 : W1.heap[w.heap.size]? = some (.cells #[.int .i64 f.k, .slice Ak f.kids.length ck, .string (baO f.t), .string (baO f.v), .string (baO f.a), .string (baO f.z), .slice Ab f.b.length cb] 25 (0, 0)) := by rw [hW1]; exact heap_alloc_new w _
 have CO := Hd (fown_any f 0 W1 Ak ck Ab cb (by omega) (hin.go hb1).in_)
 have CONE := Hd (fun W hb => one_any w W HP hb)
 have x0 : W1.cell? ⟨w.heap.size, 0, none⟩ = some (.int .i64 f.k) := cell_of_row _ _ _ _ _ _ hX1
 have x1 : W1.cell? ⟨w.heap.size, 1, none⟩ = some (.slice Ak f.kids.length ck) := cell_of_row _ _ _ _ _ _ hX1
 have x2 : W1.cell? ⟨w.heap.size, 2, none⟩ = some (.string (baO f.t)) := cell_of_row _ _ _ _ _ _ hX1
 have x3 : W1.cell? ⟨w.heap.size, 3, none⟩ = some (.string (baO f.v)) := cell_of_row _ _ _ _ _ _ hX1
 have x4 : W1.cell? ⟨w.heap.size, 4, none⟩ = some (.string (baO f.a)) := cell_of_row _ _ _ _ _ _ hX1
 have x5 : W1.cell? ⟨w.heap.size, 5, none⟩ = some (.string (baO f.z)) := cell_of_row _ _ _ _ _ _ hX1
 have x6 : W1.cell? ⟨w.heap.size, 6, none⟩ = some (.slice Ab f.b.length cb) := cell_of_row _ _ _ _ _ _ hX1
 replace hin := Hd hin
 replace hb1 := Hd hb1
 replace hX1 := Hd hX1
 go_enter Tryz.func3, Tryz.ntmps3
 go_wp2_with fail
 rw [← hW1]
 go_wp2_with fail
 unfold ftV at CO
 refine CO.out.mono ?_
 rintro en w2 ⟨N, A2, K2, c2, rfl, hN, hgood, hb2⟩
 have hB2 := hb1.out.trans (hb2.mono hb1.out.size)
 have hX2 := heap_be hb2 hX1.out
 have hin2 := hin.out.go hB2
 clear x0 x1 x2 x3 x4 x5 x6 CO
 replace hW1 := Hd hW1
 have x0 : ∀ o : Obj, (w2.alloc o).cell? ⟨w.heap.size, 0, none⟩ = some (.int .i64 f.k) := fun o => cell_of_row _ _ _ _ _ _ (heap_al hX2 o)
 have x1 : ∀ o : Obj, (w2.alloc o).cell? ⟨w.heap.size, 1, none⟩ = some (.slice Ak f.kids.length ck) := fun o => cell_of_row _ _ _ _ _ _ (heap_al hX2 o)
 have x2 : ∀ o : Obj, (w2.alloc o).cell? ⟨w.heap.size, 2, none⟩ = some (.string (baO f.t)) := fun o => cell_of_row _ _ _ _ _ _ (heap_al hX2 o)
 have x3 : ∀ o : Obj, (w2.alloc o).cell? ⟨w.heap.size, 3, none⟩ = some (.string (baO f.v)) := fun o => cell_of_row _ _ _ _ _ _ (heap_al hX2 o)
 have x4 : ∀ o : Obj, (w2.alloc o).cell? ⟨w.heap.size, 4, none⟩ = some (.string (baO f.a)) := fun o => cell_of_row _ _ _ _ _ _ (heap_al hX2 o)
 have x5 : ∀ o : Obj, (w2.alloc o).cell? ⟨w.heap.size, 5, none⟩ = some (.string (baO f.z)) := fun o => cell_of_row _ _ _ _ _ _ (heap_al hX2 o)
 have x6 : ∀ o : Obj, (w2.alloc o).cell? ⟨w.heap.size, 6, none⟩ = some (.slice Ab f.b.length cb) := fun o => cell_of_row _ _ _ _ _ _ (heap_al hX2 o)
 replace hB2 := Hd hB2
 replace hX2 := Hd hX2
 replace hin2 := Hd hin2
 replace hb2 := Hd hb2
 replace hgood := Hd hgood
 dsimp only []
 by_cases hN3 : 3000 ≤ N
 · have k1 : decide ((3000 : Int) ≤ (N : Int)) = true := decide_eq_true (by omega)
   go_wp2_with fail
   refine (CONE.out _ (hB2.out.alloc hB2.out.size _)).mono ?_
   rintro en w3 ⟨rfl, hb3⟩
   dsimp only []
   go_wp2_with fail
   go_ret
   exact ⟨rfl, (hB2.out.alloc hB2.out.size _).trans (hb3.mono (Nat.le_trans hB2.out.size (by simp)))⟩
 have k1 : decide ((3000 : Int) ≤ (N : Int)) = false := decide_eq_false (by omega)
 obtain ⟨hm, hdp⟩ := hgood.out (by omega)
 have hm3 : f.meas < 3000 := by omega
 have hd41 : f.deep ≤ 41 := by omega
 clear hm hdp
 have CR := Hd (fun o : Obj => HR.right f Ak ck Ab cb (w2.alloc o) (hB2.out.alloc hB2.out.size _) (hin2.out.go (al_be w2 o)).in_ hm3 hd41)
 unfold ftV at CR
 go_wp2_with fail
 refine (CR.out _).mono ?_
 rintro en w3 ⟨rfl, hb3⟩
 have hS2 := hB2.out.size
 have hB3 : Below w.heap.size w w3 := (hB2.out.alloc hB2.out.size _).trans (hb3.mono (Nat.le_trans hB2.out.size (by simp)))
 have hX3 := heap_be hb3 (heap_al hX2.out _)
 have hin3 := (hin2.out.go (al_be w2 _)).go hb3
 clear x0 x1 x2 x3 x4 x5 x6 CR
 have x0 : w3.cell? ⟨w.heap.size, 0, none⟩ = some (.int .i64 f.k) := cell_of_row _ _ _ _ _ _ hX3
 have x1 : w3.cell? ⟨w.heap.size, 1, none⟩ = some (.slice Ak f.kids.length ck) := cell_of_row _ _ _ _ _ _ hX3
 have x2 : w3.cell? ⟨w.heap.size, 2, none⟩ = some (.string (baO f.t)) := cell_of_row _ _ _ _ _ _ hX3
 have x3 : w3.cell? ⟨w.heap.size, 3, none⟩ = some (.string (baO f.v)) := cell_of_row _ _ _ _ _ _ hX3
 have x4 : w3.cell? ⟨w.heap.size, 4, none⟩ = some (.string (baO f.a)) := cell_of_row _ _ _ _ _ _ hX3
 have x5 : w3.cell? ⟨w.heap.size, 5, none⟩ = some (.string (baO f.z)) := cell_of_row _ _ _ _ _ _ hX3
 have x6 : w3.cell? ⟨w.heap.size, 6, none⟩ = some (.slice Ab f.b.length cb) := cell_of_row _ _ _ _ _ _ hX3
 have CT := Hd (HT.text f Ak ck Ab cb w3 hB3 hin3.in_ hm3 hd41)
 unfold ftV at CT
 replace hB3 := Hd hB3
 replace hX3 := Hd hX3
 replace hin3 := Hd hin3
 replace hb3 := Hd hb3
 replace hm3 := Hd hm3
 replace hd41 := Hd hd41
 clear hS2 k1
 dsimp only []
 obtain ⟨rt, hrt⟩ : ∃ rt, f.right = rt := ⟨_, rfl⟩
 rw [hrt]
 rw [hrt] at CT
 cases rt
 · go_wp2_with fail
   refine CT.out.mono ?_
   rintro en w4 ⟨rfl, hb4⟩
   have hB4 := hB3.out.trans (hb4.mono hB3.out.size)
   have ke : ((⟨#[]⟩ : ByteArray).toList == (⟨#[]⟩ : ByteArray).toList) = true := beq_self_eq_true _
   have kf : (if false = true then strB f.text else (⟨#[]⟩ : ByteArray)) = ⟨#[]⟩ := rfl
   rw [kf]
   clear kf x0 x1 x2 x3 x4 x5 x6
   replace hB4 := Hd hB4
   dsimp only []
   go_wp2_with fail
   refine (CONE.out _ hB4.out).mono ?_
   rintro en w5 ⟨rfl, hb5⟩
   dsimp only []
   go_wp2_with fail
   go_ret
   exact ⟨rfl, hB4.out.trans (hb5.mono hB4.out.size)⟩
 obtain ⟨hnum, hdeep, hall⟩ := right_parts14 hrt
 have kt : (if true = true then strB f.text else (⟨#[]⟩ : ByteArray)) = strB f.text := rfl
 rw [kt] at CT
 clear kt
 obtain ⟨s, hs⟩ : ∃ s, s = strB f.text := ⟨_, rfl⟩
 rw [← hs] at CT
 have hsz : s.size = f.text.length := by rw [hs, strB_size14]
 go_wp2_with fail
 refine CT.out.mono ?_
 rintro en w4 ⟨rfl, hb4⟩
 have hB4 := hB3.out.trans (hb4.mono hB3.out.size)
 have hX4 := heap_be hb4 hX3.out
 have hin4 := hin3.out.go hb4
 have CP := Hd (HPZ.parse f s w4 hB4 hall (by have := hm3.out; omega) hs)
 clear x0 x1 x2 x3 x4 x5 x6 CT
 replace hB4 := Hd hB4
 replace hX4 := Hd hX4
 replace hin4 := Hd hin4
 replace hb4 := Hd hb4
 replace hs := Hd hs
 replace hall := Hd hall
 replace hrt := Hd hrt
 replace hnum := Hd hnum
 replace hdeep := Hd hdeep
 dsimp only []
 go_wp2_with fail
 refine CP.out.mono ?_
 rintro en w5 ⟨g, Ak5, ck5, Ab5, cb5, e5, rfl, hg5, hb5, h5a, h5b, _⟩
 have hB5 := hB4.out.trans (hb5.mono hB4.out.size)
 have hX5 := heap_be hb5 hX4.out
 have hin5 := hin4.out.go hb5
 clear CP
 obtain ⟨b6, hb6⟩ : ∃ b6, b6 = w5.heap.size := ⟨_, rfl⟩
 replace hB5 := Hd hB5
 replace hX5 := Hd hX5
 replace hin5 := Hd hin5
 replace hb5 := Hd hb5
 replace hg5 := Hd hg5
 replace hb6 := Hd hb6
 unfold ftV
 dsimp only []
 have hz2 := hsz
 replace hsz := Hd hsz
 by_cases hbig : 4096 < f.text.length
 · have he5 := h5a hbig
   subst he5
   have k2 : decide ((4096 : Int) < (s.size : Int)) = true := decide_eq_true (by omega)
   clear h5a h5b hz2 hbig
   go_wp2_with fail
   go_ret
   exact ⟨rfl, hB5.out.alloc hB5.out.size _⟩
 obtain ⟨he5, hgf⟩ := h5b (by omega) hrt.out
 subst he5 hgf
 have k2 : decide ((4096 : Int) < (s.size : Int)) = false := decide_eq_false (by omega)
 have k3 : decide ((2 : Int) < (s.size : Int)) = true := decide_eq_true (by have := (text_len g).resolve_right (by rw [hall.out]; decide); omega)
 clear h5a h5b hz2 hbig
 have x0 : ∀ o : Obj, (w5.alloc o).cell? ⟨w.heap.size, 0, none⟩ = some (.int .i64 g.k) := fun o => cell_of_row _ _ _ _ _ _ (heap_al hX5.out o)
 have x1 : ∀ o : Obj, (w5.alloc o).cell? ⟨w.heap.size, 1, none⟩ = some (.slice Ak g.kids.length ck) := fun o => cell_of_row _ _ _ _ _ _ (heap_al hX5.out o)
 have x2 : ∀ o : Obj, (w5.alloc o).cell? ⟨w.heap.size, 2, none⟩ = some (.string (baO g.t)) := fun o => cell_of_row _ _ _ _ _ _ (heap_al hX5.out o)
 have x3 : ∀ o : Obj, (w5.alloc o).cell? ⟨w.heap.size, 3, none⟩ = some (.string (baO g.v)) := fun o => cell_of_row _ _ _ _ _ _ (heap_al hX5.out o)
 have x4 : ∀ o : Obj, (w5.alloc o).cell? ⟨w.heap.size, 4, none⟩ = some (.string (baO g.a)) := fun o => cell_of_row _ _ _ _ _ _ (heap_al hX5.out o)
 have x5 : ∀ o : Obj, (w5.alloc o).cell? ⟨w.heap.size, 5, none⟩ = some (.string (baO g.z)) := fun o => cell_of_row _ _ _ _ _ _ (heap_al hX5.out o)
 have x6 : ∀ o : Obj, (w5.alloc o).cell? ⟨w.heap.size, 6, none⟩ = some (.slice Ab g.b.length cb) := fun o => cell_of_row _ _ _ _ _ _ (heap_al hX5.out o)
 have CU := Hd (fun o : Obj => HU.put g Ak ck Ab cb (w5.alloc o) (hB5.out.alloc hB5.out.size _) (hin5.out.go (al_be w5 o)).in_ hm3.out hrt.out)
 unfold ftV at CU
 go_wp2_with fail
 refine (CU.out _).mono ?_
 rintro en w6 ⟨A6, c6, B6, d6, rfl, hE6, hb6'⟩
 have hS5 := hB5.out.size
 have hB6 : Below w.heap.size w w6 := (hB5.out.alloc hB5.out.size _).trans (hb6'.mono (Nat.le_trans hS5 (by simp)))
 have hX6 := heap_be hb6' (heap_al hX5.out _)
 have hG6 := heap_be hb6' (heap_alloc_new w5 _)
 have hin6 := (hin5.out.go (al_be w5 _)).go hb6'
 have hg6 := (hg5.out.go (al_be w5 _)).go hb6'
 have CD := Hd (HD.read g A6 c6 B6 d6 w6 hB6 hE6 hm3.out hrt.out)
 clear x0 x1 x2 x3 x4 x5 x6 CU hS5
 replace hB6 := Hd hB6
 replace hX6 := Hd hX6
 replace hG6 := Hd hG6
 replace hin6 := Hd hin6
 replace hg6 := Hd hg6
 replace hb6' := Hd hb6'
 replace hE6 := Hd hE6
 dsimp only []
 go_wp2_with fail
 refine CD.out.mono ?_
 rintro en w7 ⟨Ak7, ck7, Ab7, cb7, rfl, hg7, hb7⟩
 have hB7 := hB6.out.trans (hb7.mono hB6.out.size)
 have hX7 := heap_be hb7 hX6.out
 have hG7 := heap_be hb7 hG6.out
 have hin7 := hin6.out.go hb7
 have hgg7 := hg6.out.go hb7
 clear CD
 have x0 : ∀ o : Obj, (w7.alloc o).cell? ⟨w.heap.size, 0, none⟩ = some (.int .i64 g.k) := fun o => cell_of_row _ _ _ _ _ _ (heap_al hX7 o)
 have x1 : ∀ o : Obj, (w7.alloc o).cell? ⟨w.heap.size, 1, none⟩ = some (.slice Ak g.kids.length ck) := fun o => cell_of_row _ _ _ _ _ _ (heap_al hX7 o)
 have x2 : ∀ o : Obj, (w7.alloc o).cell? ⟨w.heap.size, 2, none⟩ = some (.string (baO g.t)) := fun o => cell_of_row _ _ _ _ _ _ (heap_al hX7 o)
 have x3 : ∀ o : Obj, (w7.alloc o).cell? ⟨w.heap.size, 3, none⟩ = some (.string (baO g.v)) := fun o => cell_of_row _ _ _ _ _ _ (heap_al hX7 o)
 have x4 : ∀ o : Obj, (w7.alloc o).cell? ⟨w.heap.size, 4, none⟩ = some (.string (baO g.a)) := fun o => cell_of_row _ _ _ _ _ _ (heap_al hX7 o)
 have x5 : ∀ o : Obj, (w7.alloc o).cell? ⟨w.heap.size, 5, none⟩ = some (.string (baO g.z)) := fun o => cell_of_row _ _ _ _ _ _ (heap_al hX7 o)
 have x6 : ∀ o : Obj, (w7.alloc o).cell? ⟨w.heap.size, 6, none⟩ = some (.slice Ab g.b.length cb) := fun o => cell_of_row _ _ _ _ _ _ (heap_al hX7 o)
 have CU := Hd (fun o : Obj => HU.put g Ak ck Ab cb (w7.alloc o) (hB7.alloc hB7.size _) (hin7.go (al_be w7 o)).in_ hm3.out hrt.out)
 unfold ftV at CU
 replace hB7 := Hd hB7
 replace hX7 := Hd hX7
 replace hG7 := Hd hG7
 replace hin7 := Hd hin7
 replace hgg7 := Hd hgg7
 replace hg7 := Hd hg7
 replace hb7 := Hd hb7
 unfold ftV
 dsimp only []
 go_wp2_with fail
 refine (CU.out _).mono ?_
 rintro en w8 ⟨A8, c8, B8, d8, rfl, hE8, hb8⟩
 have hS7 := hB7.out.size
 have hB8 : Below w.heap.size w w8 := (hB7.out.alloc hB7.out.size _).trans (hb8.mono (Nat.le_trans hS7 (by simp)))
 have hX8 := heap_be hb8 (heap_al hX7.out _)
 have hG8 := heap_be hb8 (heap_al hG7.out _)
 have hH8 := heap_be hb8 (heap_alloc_new w7 _)
 have hin8 := (hin7.out.go (al_be w7 _)).go hb8
 have hgg8 := (hgg7.out.go (al_be w7 _)).go hb8
 have hh8 := (hg7.out.go (al_be w7 _)).go hb8
 have he16 : g.el.enc.length ≤ 16384 := by have := el_enc hall.out (by have := hm3.out; omega); have := hm3.out; omega
 have hrg := el_right hall.out
 have hd24 : g.el.deep ≤ 24 := by have := el_deep g; have := hdeep.out; omega
 have hsz6 : g.el.size ≤ 1000000 := by have := el_size_enc hrg; omega
 have CB := Hd (HBP.bput g.el A8 c8 B8 d8 w8 hB8 hE8 hrg hd24 he16 hsz6)
 clear x0 x1 x2 x3 x4 x5 x6 CU hS7
 replace hB8 := Hd hB8
 replace hX8 := Hd hX8
 replace hG8 := Hd hG8
 replace hH8 := Hd hH8
 replace hin8 := Hd hin8
 replace hgg8 := Hd hgg8
 replace hh8 := Hd hh8
 replace hb8 := Hd hb8
 replace hE8 := Hd hE8
 replace he16 := Hd he16
 replace hrg := Hd hrg
 replace hd24 := Hd hd24
 replace hsz6 := Hd hsz6
 dsimp only []
 go_wp2_with fail
 refine CB.out.mono ?_
 rintro en w9 ⟨A9, c9, rfl, hs9, hc9, hb9⟩
 have hB9 := hB8.out.trans (hb9.mono hB8.out.size)
 have CPP := Hd (HBR.bparse g.el A9 c9 w9 hB9 hs9 hc9 hrg.out (el_byt g) hd24.out he16.out)
 clear CB
 replace hB9 := Hd hB9
 replace hs9 := Hd hs9
 replace hb9 := Hd hb9
 dsimp only []
 go_wp2_with fail
 refine CPP.out.mono ?_
 rintro en w10 ⟨A10, c10, B10, d10, rfl, hE10, hb10⟩
 have hB10 := hB9.out.trans (hb10.mono hB9.out.size)
 have hb810 := hb9.out.trans (hb10.mono hb9.out.size)
 have hX10 := heap_be hb810 hX8.out
 have hG10 := heap_be hb810 hG8.out
 have hH10 := heap_be hb810 hH8.out
 have hin10 := hin8.out.go hb810
 have hgg10 := hgg8.out.go hb810
 have hh10 := hh8.out.go hb810
 have CD := Hd (fun o : Obj => HD.read g A10 c10 B10 d10 (w10.alloc o) (hB10.alloc hB10.size _) (hE10.go (al_be w10 o)) hm3.out hrt.out)
 unfold elV at CD
 clear CPP hc9
 replace hB10 := Hd hB10
 replace hX10 := Hd hX10
 replace hG10 := Hd hG10
 replace hH10 := Hd hH10
 replace hin10 := Hd hin10
 replace hgg10 := Hd hgg10
 replace hh10 := Hd hh10
 replace hb10 := Hd hb10
 replace hb810 := Hd hb810
 replace hE10 := Hd hE10
 obtain ⟨L, hL⟩ : ∃ L, g.el.enc.length = L := ⟨_, rfl⟩
 rw [hL]
 replace hL := Hd hL
 unfold elV
 dsimp only []
 go_wp2_with fail
 refine (CD.out _).mono ?_
 rintro en w11 ⟨Ak11, ck11, Ab11, cb11, rfl, hg11, hb11⟩
 have hS10 := hB10.out.size
 have hB11 : Below w.heap.size w w11 := (hB10.out.alloc hB10.out.size _).trans (hb11.mono (Nat.le_trans hS10 (by simp)))
 have hX11 := heap_be hb11 (heap_al hX10.out _)
 have hG11 := heap_be hb11 (heap_al hG10.out _)
 have hH11 := heap_be hb11 (heap_al hH10.out _)
 have hin11 := (hin10.out.go (al_be w10 _)).go hb11
 have hgg11 := (hgg10.out.go (al_be w10 _)).go hb11
 have hh11 := (hh10.out.go (al_be w10 _)).go hb11
 have x0 : ∀ o : Obj, (w11.alloc o).cell? ⟨w.heap.size, 0, none⟩ = some (.int .i64 g.k) := fun o => cell_of_row _ _ _ _ _ _ (heap_al hX11 o)
 have x1 : ∀ o : Obj, (w11.alloc o).cell? ⟨w.heap.size, 1, none⟩ = some (.slice Ak g.kids.length ck) := fun o => cell_of_row _ _ _ _ _ _ (heap_al hX11 o)
 have x2 : ∀ o : Obj, (w11.alloc o).cell? ⟨w.heap.size, 2, none⟩ = some (.string (baO g.t)) := fun o => cell_of_row _ _ _ _ _ _ (heap_al hX11 o)
 have x3 : ∀ o : Obj, (w11.alloc o).cell? ⟨w.heap.size, 3, none⟩ = some (.string (baO g.v)) := fun o => cell_of_row _ _ _ _ _ _ (heap_al hX11 o)
 have x4 : ∀ o : Obj, (w11.alloc o).cell? ⟨w.heap.size, 4, none⟩ = some (.string (baO g.a)) := fun o => cell_of_row _ _ _ _ _ _ (heap_al hX11 o)
 have x5 : ∀ o : Obj, (w11.alloc o).cell? ⟨w.heap.size, 5, none⟩ = some (.string (baO g.z)) := fun o => cell_of_row _ _ _ _ _ _ (heap_al hX11 o)
 have x6 : ∀ o : Obj, (w11.alloc o).cell? ⟨w.heap.size, 6, none⟩ = some (.slice Ab g.b.length cb) := fun o => cell_of_row _ _ _ _ _ _ (heap_al hX11 o)
 have y0 : ∀ o : Obj, (w11.alloc o).cell? ⟨w5.heap.size, 0, none⟩ = some (.int .i64 g.k) := fun o => cell_of_row _ _ _ _ _ _ (heap_al hG11 o)
 have y1 : ∀ o : Obj, (w11.alloc o).cell? ⟨w5.heap.size, 1, none⟩ = some (.slice Ak5 g.kids.length ck5) := fun o => cell_of_row _ _ _ _ _ _ (heap_al hG11 o)
 have y2 : ∀ o : Obj, (w11.alloc o).cell? ⟨w5.heap.size, 2, none⟩ = some (.string (baO g.t)) := fun o => cell_of_row _ _ _ _ _ _ (heap_al hG11 o)
 have y3 : ∀ o : Obj, (w11.alloc o).cell? ⟨w5.heap.size, 3, none⟩ = some (.string (baO g.v)) := fun o => cell_of_row _ _ _ _ _ _ (heap_al hG11 o)
 have y4 : ∀ o : Obj, (w11.alloc o).cell? ⟨w5.heap.size, 4, none⟩ = some (.string (baO g.a)) := fun o => cell_of_row _ _ _ _ _ _ (heap_al hG11 o)
 have y5 : ∀ o : Obj, (w11.alloc o).cell? ⟨w5.heap.size, 5, none⟩ = some (.string (baO g.z)) := fun o => cell_of_row _ _ _ _ _ _ (heap_al hG11 o)
 have y6 : ∀ o : Obj, (w11.alloc o).cell? ⟨w5.heap.size, 6, none⟩ = some (.slice Ab5 g.b.length cb5) := fun o => cell_of_row _ _ _ _ _ _ (heap_al hG11 o)
 have CS := Hd (fun o : Obj => HS.same g Ak Ak5 ck ck5 Ab Ab5 cb cb5 (w11.alloc o) (hB11.alloc hB11.size _) (hin11.go (al_be w11 o)) (hgg11.go (al_be w11 o)) hm3.out hd41.out)
 unfold ftV at CS
 clear CD hS10
 replace hB11 := Hd hB11
 replace hX11 := Hd hX11
 replace hG11 := Hd hG11
 replace hH11 := Hd hH11
 replace hin11 := Hd hin11
 replace hgg11 := Hd hgg11
 replace hh11 := Hd hh11
 replace hg11 := Hd hg11
 replace hb11 := Hd hb11
 unfold ftV
 dsimp only []
 go_wp2_with fail
 refine (CS.out _).mono ?_
 rintro en w12 ⟨rfl, hb12⟩
 have hS11 := hB11.out.size
 have hB12 : Below w.heap.size w w12 := (hB11.out.alloc hB11.out.size _).trans (hb12.mono (Nat.le_trans hS11 (by simp)))
 have hX12 := heap_be hb12 (heap_al hX11.out _)
 have hH12 := heap_be hb12 (heap_al hH11.out _)
 have hI12 := heap_be hb12 (heap_alloc_new w11 _)
 have hin12 := (hin11.out.go (al_be w11 _)).go hb12
 have hh12 := (hh11.out.go (al_be w11 _)).go hb12
 have hi12 := (hg11.out.go (al_be w11 _)).go hb12
 clear x0 y0 x1 y1 x2 y2 x3 y3 x4 y4 x5 y5 x6 y6 CS hS11
 have x0 : w12.cell? ⟨w.heap.size, 0, none⟩ = some (.int .i64 g.k) := cell_of_row _ _ _ _ _ _ hX12
 have x1 : w12.cell? ⟨w.heap.size, 1, none⟩ = some (.slice Ak g.kids.length ck) := cell_of_row _ _ _ _ _ _ hX12
 have x2 : w12.cell? ⟨w.heap.size, 2, none⟩ = some (.string (baO g.t)) := cell_of_row _ _ _ _ _ _ hX12
 have x3 : w12.cell? ⟨w.heap.size, 3, none⟩ = some (.string (baO g.v)) := cell_of_row _ _ _ _ _ _ hX12
 have x4 : w12.cell? ⟨w.heap.size, 4, none⟩ = some (.string (baO g.a)) := cell_of_row _ _ _ _ _ _ hX12
 have x5 : w12.cell? ⟨w.heap.size, 5, none⟩ = some (.string (baO g.z)) := cell_of_row _ _ _ _ _ _ hX12
 have x6 : w12.cell? ⟨w.heap.size, 6, none⟩ = some (.slice Ab g.b.length cb) := cell_of_row _ _ _ _ _ _ hX12
 have y0 : w12.cell? ⟨w7.heap.size, 0, none⟩ = some (.int .i64 g.k) := cell_of_row _ _ _ _ _ _ hH12
 have y1 : w12.cell? ⟨w7.heap.size, 1, none⟩ = some (.slice Ak7 g.kids.length ck7) := cell_of_row _ _ _ _ _ _ hH12
 have y2 : w12.cell? ⟨w7.heap.size, 2, none⟩ = some (.string (baO g.t)) := cell_of_row _ _ _ _ _ _ hH12
 have y3 : w12.cell? ⟨w7.heap.size, 3, none⟩ = some (.string (baO g.v)) := cell_of_row _ _ _ _ _ _ hH12
 have y4 : w12.cell? ⟨w7.heap.size, 4, none⟩ = some (.string (baO g.a)) := cell_of_row _ _ _ _ _ _ hH12
 have y5 : w12.cell? ⟨w7.heap.size, 5, none⟩ = some (.string (baO g.z)) := cell_of_row _ _ _ _ _ _ hH12
 have y6 : w12.cell? ⟨w7.heap.size, 6, none⟩ = some (.slice Ab7 g.b.length cb7) := cell_of_row _ _ _ _ _ _ hH12
 have CS := Hd (HS.same g Ak Ak7 ck ck7 Ab Ab7 cb cb7 w12 hB12 hin12 hh12 hm3.out hd41.out)
 unfold ftV at CS
 replace hB12 := Hd hB12
 replace hX12 := Hd hX12
 replace hH12 := Hd hH12
 replace hI12 := Hd hI12
 replace hin12 := Hd hin12
 replace hh12 := Hd hh12
 replace hi12 := Hd hi12
 replace hb12 := Hd hb12
 dsimp only []
 go_wp2_with fail
 refine CS.out.mono ?_
 rintro en w13 ⟨rfl, hb13⟩
 have hB13 := hB12.out.trans (hb13.mono hB12.out.size)
 have hX13 := heap_be hb13 hX12.out
 have hI13 := heap_be hb13 hI12.out
 have hin13 := hin12.out.go hb13
 have hi13 := hi12.out.go hb13
 clear x0 y0 x1 y1 x2 y2 x3 y3 x4 y4 x5 y5 x6 y6 CS
 have x0 : w13.cell? ⟨w.heap.size, 0, none⟩ = some (.int .i64 g.k) := cell_of_row _ _ _ _ _ _ hX13
 have x1 : w13.cell? ⟨w.heap.size, 1, none⟩ = some (.slice Ak g.kids.length ck) := cell_of_row _ _ _ _ _ _ hX13
 have x2 : w13.cell? ⟨w.heap.size, 2, none⟩ = some (.string (baO g.t)) := cell_of_row _ _ _ _ _ _ hX13
 have x3 : w13.cell? ⟨w.heap.size, 3, none⟩ = some (.string (baO g.v)) := cell_of_row _ _ _ _ _ _ hX13
 have x4 : w13.cell? ⟨w.heap.size, 4, none⟩ = some (.string (baO g.a)) := cell_of_row _ _ _ _ _ _ hX13
 have x5 : w13.cell? ⟨w.heap.size, 5, none⟩ = some (.string (baO g.z)) := cell_of_row _ _ _ _ _ _ hX13
 have x6 : w13.cell? ⟨w.heap.size, 6, none⟩ = some (.slice Ab g.b.length cb) := cell_of_row _ _ _ _ _ _ hX13
 have y0 : w13.cell? ⟨w11.heap.size, 0, none⟩ = some (.int .i64 g.k) := cell_of_row _ _ _ _ _ _ hI13
 have y1 : w13.cell? ⟨w11.heap.size, 1, none⟩ = some (.slice Ak11 g.kids.length ck11) := cell_of_row _ _ _ _ _ _ hI13
 have y2 : w13.cell? ⟨w11.heap.size, 2, none⟩ = some (.string (baO g.t)) := cell_of_row _ _ _ _ _ _ hI13
 have y3 : w13.cell? ⟨w11.heap.size, 3, none⟩ = some (.string (baO g.v)) := cell_of_row _ _ _ _ _ _ hI13
 have y4 : w13.cell? ⟨w11.heap.size, 4, none⟩ = some (.string (baO g.a)) := cell_of_row _ _ _ _ _ _ hI13
 have y5 : w13.cell? ⟨w11.heap.size, 5, none⟩ = some (.string (baO g.z)) := cell_of_row _ _ _ _ _ _ hI13
 have y6 : w13.cell? ⟨w11.heap.size, 6, none⟩ = some (.slice Ab11 g.b.length cb11) := cell_of_row _ _ _ _ _ _ hI13
 have CS := Hd (HS.same g Ak Ak11 ck ck11 Ab Ab11 cb cb11 w13 hB13 hin13 hi13 hm3.out hd41.out)
 unfold ftV at CS
 replace hB13 := Hd hB13
 replace hX13 := Hd hX13
 replace hI13 := Hd hI13
 replace hin13 := Hd hin13
 replace hi13 := Hd hi13
 replace hb13 := Hd hb13
 dsimp only []
 go_wp2_with fail
 refine CS.out.mono ?_
 rintro en w14 ⟨rfl, hb14⟩
 have hB14 := hB13.out.trans (hb14.mono hB13.out.size)
 clear x0 y0 x1 y1 x2 y2 x3 y3 x4 y4 x5 y5 x6 y6 CS
 replace hB14 := Hd hB14
 replace hb14 := Hd hb14
 dsimp only []
 go_wp2_with fail
 refine (CONE.out _ hB14.out).mono ?_
 rintro en w15 ⟨rfl, hb15⟩
 dsimp only []
 go_wp2_with fail
 go_ret
 exact ⟨rfl, hB14.out.trans (hb15.mono hB14.out.size)⟩
end Go.Proofs.YtcbiedonmibfaaaGreatDoor
