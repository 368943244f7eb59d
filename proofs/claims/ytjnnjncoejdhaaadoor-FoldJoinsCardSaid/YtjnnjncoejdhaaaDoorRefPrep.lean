/-
  The document's Fold, Piece and Exact of any text.
-/
import Derived.Test.YtjnnjncoejdhaaaDoorRefFold
namespace Go.Proofs.YtjnnjncoejdhaaaDoor
open Go.RowKit
set_option maxHeartbeats 400000 in
theorem refBlank_any (c : Nat) (w : World) (hc : c ≤ 1114111) : Calls Tryd.prog 38 #[.int .i32 (c : Int)] w fun e w' => e = .returned (.bool (uBlank c)) ∧ w' = w := by
  have h : Hid (uBlank c = true ↔ (9 ≤ (c : Int) ∧ (c : Int) ≤ 13 ∨ (c : Int) = 32 ∨ (c : Int) = 133 ∨ (c : Int) = 160)) := Lib.hid (by
    unfold uBlank
    rw [decide_eq_true_eq]
    omega)
  go_enter Tryd.func38, Tryd.ntmps38
  go_wp2
  all_goals
    go_ret
    exact ⟨ret_b (by rw [Bool.eq_iff_iff, h.out]; simp; omega), rfl⟩
theorem none_lo (c : Nat) (h : c < 32) : uNone c = !uBlank c := by
  unfold uNone uBlank
  by_cases h1 : 9 ≤ c ∧ c ≤ 13
  · rw [decide_eq_false (by omega), decide_eq_true (by omega)]
    rfl
  · rw [decide_eq_true (by omega), decide_eq_false (by omega)]
    rfl
set_option maxHeartbeats 400000 in
theorem refNothing_any (c : Nat) (w : World) (hc : c ≤ 1114111) : Calls Tryd.prog 37 #[.int .i32 (c : Int)] w fun e w' => e = .returned (.bool (uNone c)) ∧ w' = w := by
  by_cases h : c < 32
  · have CB := refBlank_any c w hc
    have hn := none_lo c h
    have k0 : (c : Int) < 32 := by omega
    have k1 : ((c : Int) == 127) = false := beq_eq_false_iff_ne.2 (by omega)
    have k2 : ((c : Int) == 173) = false := beq_eq_false_iff_ne.2 (by omega)
    have k3 : ((c : Int) == 8203) = false := beq_eq_false_iff_ne.2 (by omega)
    rw [hn]
    obtain ⟨b, hb⟩ : ∃ b, b = uBlank c := ⟨_, rfl⟩
    rw [← hb] at CB ⊢
    clear hb hn
    replace CB := Lib.hid CB
    cases b
    all_goals
      go_enter Tryd.func37, Tryd.ntmps37
      go_wp2_with fail
      refine CB.out.mono ?_
      rintro _ w2 ⟨rfl, h2⟩
      subst w2
      dsimp only []
      go_wp2_with fail
      go_ret
      exact ⟨rfl, rfl⟩
  · have hn : Hid (uNone c = true ↔ ((c : Int) = 127 ∨ (c : Int) = 173 ∨ (c : Int) = 8203)) := Lib.hid (by
      unfold uNone
      rw [decide_eq_true_eq]
      omega)
    have k0 : ¬ ((c : Int) < 32) := by omega
    go_enter Tryd.func37, Tryd.ntmps37
    go_wp2
    all_goals
      go_ret
      exact ⟨ret_b (by rw [Bool.eq_iff_iff, hn.out]; simp; omega), rfl⟩
theorem Src.two (w : World) (a b : Nat) : Src (w.alloc (.cells #[.int .u8 (a : Int), .int .u8 (b : Int)] 5)) (w.heap.size + 1) (some ⟨w.heap.size, 0, none⟩) 2 [a, b] :=
  ⟨Nat.le_refl _, (by simp), fun ad e => by
    injection e with e
    subst e
    refine ⟨fun _ => Nat.lt_succ_self _, fun j n hj => ?_⟩
    have h := World.news_of_block (cs := #[.int .u8 (a : Int), .int .u8 (b : Int)]) (fr := (0, 0)) (heap_alloc_new w (.cells #[.int .u8 (a : Int), .int .u8 (b : Int)] 5)) j (.int .u8 (n : Int))
    refine h ?_
    match j, hj with
    | 0, hj => simp at hj; subst hj; rfl
    | 1, hj => simp at hj; subst hj; rfl⟩
theorem small_two (c : Nat) (h1 : 192 ≤ c) (h2 : c ≤ 222) : uEnc c = [195, 128 + c % 64] ∧ uEnc (c + 32) = [195, 128 + c % 64 + 32] := by
  unfold uEnc
  rw [if_neg (by omega), if_pos (by omega), if_neg (by omega), if_pos (by omega)]
  simp only [List.cons.injEq, and_true]
  omega
set_option maxRecDepth 4000 in
set_option maxHeartbeats 400000 in
theorem refSmall_any (s : ByteArray) (c : Nat) (w : World) (hc : uOk c) (hs : bs s = uEnc c) :
    Calls Tryd.prog 39 #[.string s, .int .i32 (c : Int)] w fun e w' => ∃ x, e = .returned (.string x) ∧ bs x = uEnc (uSmall c) ∧ Below w.heap.size w w' := by
  have hc1 := hc.1
  by_cases h1 : 65 ≤ c ∧ c ≤ 90
  · have hsm : uSmall c = c + 32 := by unfold uSmall; rw [if_pos (.inl h1)]
    have k0 : (65 : Int) ≤ (c : Int) := by omega
    have k1 : (c : Int) ≤ 90 := by omega
    obtain ⟨d, hd⟩ : ∃ d, d = c + 32 := ⟨_, rfl⟩
    have hdi : (c : Int) + 32 = (d : Int) := by omega
    have hdb : d < 128 := by omega
    have cv : (convert 32 9 (.slice (some ⟨w.heap.size, 0, none⟩) 1 1)).run Tryd.prog (w.alloc (.cells #[.int .u8 (d : Int)] 5)) = .ok (.string (strB [d])) (w.alloc (.cells #[.int .u8 (d : Int)] 5)) := Src.conv (Src.one w d)
    replace hd := Lib.hid hd
    replace hsm := Lib.hid hsm
    go_enter Tryd.func39, Tryd.ntmps39
    go_wp2_with fail
    go_ret
    refine ⟨_, rfl, ?_, (Below.refl _ _).alloc (Nat.le_refl _) _⟩
    rw [hsm.out, ← hd.out, bs_strB _ (by simp; omega)]
    unfold uEnc
    rw [if_pos hdb]
  · by_cases h2 : 192 ≤ c ∧ c ≤ 222
    · obtain ⟨e1, e2⟩ := small_two c h2.1 h2.2
      have hsz : s.size = 2 := by rw [← bs_len, hs, e1]; rfl
      have hg : s[1].toNat = 128 + c % 64 := by
        have h := bs_get s 1 (by omega)
        rw [← h]
        simp only [hs, e1]
        rfl
      have k0 : ¬ ((c : Int) ≤ 90) := by omega
      have k0' : (65 : Int) ≤ (c : Int) := by omega
      have k1 : (192 : Int) ≤ (c : Int) := by omega
      have k2 : (c : Int) ≤ 222 := by omega
      by_cases h3 : c = 215
      · have k3 : ((c : Int) != 215) = false := by simp; omega
        have hsm : uSmall c = c := by unfold uSmall; rw [if_neg (by omega)]
        replace h3 := Lib.hid h3
        replace hsm := Lib.hid hsm
        replace hg := Lib.hid hg
        replace e1 := Lib.hid e1
        replace e2 := Lib.hid e2
        go_enter Tryd.func39, Tryd.ntmps39
        go_wp2_with fail
        go_ret
        exact ⟨s, rfl, by rw [hs, hsm.out], Below.refl _ _⟩
      · have k3 : ((c : Int) != 215) = true := by simp; omega
        have hsm : uSmall c = c + 32 := by unfold uSmall; rw [if_pos (.inr ⟨h2.1, h2.2, h3⟩)]
        obtain ⟨d, hd⟩ : ∃ d, d = 128 + c % 64 := ⟨_, rfl⟩
        rw [← hd] at hg e2
        obtain ⟨d2, hd2⟩ : ∃ d2, d2 = d + 32 := ⟨_, rfl⟩
        have hdi : (d : Int) + 32 = (d2 : Int) := by omega
        have hdb : d2 < 256 := by omega
        have cv : (convert 32 9 (.slice (some ⟨w.heap.size, 0, none⟩) 2 2)).run Tryd.prog (w.alloc (.cells #[.int .u8 195, .int .u8 (d2 : Int)] 5)) = .ok (.string (strB [195, d2])) (w.alloc (.cells #[.int .u8 195, .int .u8 (d2 : Int)] 5)) := Src.conv (Src.two w 195 d2)
        rw [← hd2] at e2
        have i0 : (1 : Int) < (s.size : Int) := by omega
        have i1 : 1 < s.size := by omega
        replace hd := Lib.hid hd
        replace hd2 := Lib.hid hd2
        replace hsm := Lib.hid hsm
        replace e1 := Lib.hid e1
        replace e2 := Lib.hid e2
        go_enter Tryd.func39, Tryd.ntmps39
        go_wp2_with fail
        go_ret
        refine ⟨_, rfl, ?_, (Below.refl _ _).alloc (Nat.le_refl _) _⟩
        rw [hsm.out, e2.out, bs_strB _ (by simp; omega)]
    · have hsm : uSmall c = c := by unfold uSmall; rw [if_neg (by omega)]
      replace hsm := Lib.hid hsm
      have hcase : c < 65 ∨ 90 < c ∧ c < 192 ∨ 222 < c := by omega
      rcases hcase with h3 | h3 | h3
      · have k0 : ¬ ((65 : Int) ≤ (c : Int)) := by omega
        have k1 : ¬ ((192 : Int) ≤ (c : Int)) := by omega
        go_enter Tryd.func39, Tryd.ntmps39
        go_wp2_with fail
        go_ret
        exact ⟨s, rfl, by rw [hs, hsm.out], Below.refl _ _⟩
      · have k0' : (65 : Int) ≤ (c : Int) := by omega
        have k0 : ¬ ((c : Int) ≤ 90) := by omega
        have k1 : ¬ ((192 : Int) ≤ (c : Int)) := by omega
        go_enter Tryd.func39, Tryd.ntmps39
        go_wp2_with fail
        go_ret
        exact ⟨s, rfl, by rw [hs, hsm.out], Below.refl _ _⟩
      · have k0' : (65 : Int) ≤ (c : Int) := by omega
        have k0 : ¬ ((c : Int) ≤ 90) := by omega
        have k1 : (192 : Int) ≤ (c : Int) := by omega
        have k2 : ¬ ((c : Int) ≤ 222) := by omega
        go_enter Tryd.func39, Tryd.ntmps39
        go_wp2_with fail
        go_ret
        exact ⟨s, rfl, by rw [hs, hsm.out], Below.refl _ _⟩
/-- What a round of the preparing leaves: CS the characters in all, cs those to come, pre what is out. -/
structure PrepRel (e g : Bool) (s : ByteArray) (CS : List Nat) (x o : ByteArray) (b f : Bool) (cs : List Nat) : Prop where
  x : bs x = uEncs cs
  all : uAll cs
  pre : ∃ pre, uPrep e g false true CS = pre ++ uPrep e g b f cs ∧ bs o = uEncs pre
  le : o.size ≤ s.size
theorem PrepRel.of {e g : Bool} {s : ByteArray} {CS : List Nat} {x o : ByteArray} {b f : Bool} {cs pre : List Nat} (h1 : bs x = uEncs cs) (h2 : uAll cs) (h3 : uPrep e g false true CS = pre ++ uPrep e g b f cs) (h4 : bs o = uEncs pre) (h5 : bs s = uEncs CS) : PrepRel e g s CS x o b f cs := by
  refine ⟨h1, h2, ⟨pre, h3, h4⟩, ?_⟩
  have h := uPrep_len e g CS false true
  rw [h3, uEncs_app, List.length_append, ← h4, ← h5, bs_len, bs_len] at h
  simp at h
  omega
theorem PrepRel.next {e g : Bool} {s : ByteArray} {CS : List Nat} {x o : ByteArray} {b f : Bool} {cs : List Nat} (h : PrepRel e g s CS x o b f cs) (h0 : 0 < x.size) : ∃ c cs', cs = c :: cs' ∧ uOk c ∧ uNext (bs x) = (c, (uEnc c).length) := by
  rcases cs with _ | ⟨c, cs'⟩
  · have h1 := h.x
    have h2 := bs_len x
    rw [h1] at h2
    simp [uEncs] at h2
    omega
  · refine ⟨c, cs', rfl, h.all c (List.mem_cons_self ..), ?_⟩
    rw [h.x, uEncs_cons]
    exact uNext_enc c _ (h.all c (List.mem_cons_self ..))
theorem PrepRel.skip {e g : Bool} {s : ByteArray} {CS : List Nat} {x x' o : ByteArray} {b f : Bool} {c : Nat} {cs : List Nat} (h : PrepRel e g s CS x o b f (c :: cs)) (hx : bs x' = (bs x).drop (uEnc c).length) (hs : bs s = uEncs CS) (hn : uNone c = true) : PrepRel e g s CS x' o b f cs := by
  obtain ⟨pre, h1, h2⟩ := h.pre
  refine PrepRel.of (pre := pre) ?_ (fun y hy => h.all y (List.mem_cons_of_mem _ hy)) ?_ h2 hs
  · rw [hx, h.x, uEncs_cons, List.drop_left' rfl]
  · rw [h1, uPrep_cons, if_pos hn]
theorem PrepRel.space {e g : Bool} {s : ByteArray} {CS : List Nat} {x x' o : ByteArray} {b f : Bool} {c : Nat} {cs : List Nat} (h : PrepRel e g s CS x o b f (c :: cs)) (hx : bs x' = (bs x).drop (uEnc c).length) (hs : bs s = uEncs CS) (hn : uNone c = false) (hb : uBlank c = true) : PrepRel e g s CS x' o true f cs := by
  obtain ⟨pre, h1, h2⟩ := h.pre
  refine PrepRel.of (pre := pre) ?_ (fun y hy => h.all y (List.mem_cons_of_mem _ hy)) ?_ h2 hs
  · rw [hx, h.x, uEncs_cons, List.drop_left' rfl]
  · rw [h1, uPrep_cons, if_neg (by rw [hn]; decide), if_pos hb]
theorem PrepRel.put {e g : Bool} {s : ByteArray} {CS : List Nat} {x x' o o' y : ByteArray} {b f : Bool} {c : Nat} {cs : List Nat} (h : PrepRel e g s CS x o b f (c :: cs)) (hx : bs x' = (bs x).drop (uEnc c).length) (hs : bs s = uEncs CS) (hn : uNone c = false) (hb : uBlank c = false) (hy : bs y = uEnc (if g then uSmall c else c))
    (ho : bs o' = bs o ++ ((if b && (!f || e) then [32] else []) ++ bs y)) : PrepRel e g s CS x' o' false false cs := by
  obtain ⟨pre, h1, h2⟩ := h.pre
  refine PrepRel.of (pre := pre ++ ((if b && (!f || e) then [32] else []) ++ [if g then uSmall c else c])) ?_ (fun y hy => h.all y (List.mem_cons_of_mem _ hy)) ?_ ?_ hs
  · rw [hx, h.x, uEncs_cons, List.drop_left' rfl]
  · rw [h1, uPrep_cons, if_neg (by rw [hn]; decide), if_neg (by rw [hb]; decide)]
    simp
  · rw [ho, uEncs_app, uEncs_app, h2, hy]
    congr 1
    cases b <;> cases f <;> cases e <;> simp [uEncs, uEnc]
theorem PrepRel.fin {e g : Bool} {s : ByteArray} {CS : List Nat} {x o o' : ByteArray} {b f : Bool} {cs : List Nat} (h : PrepRel e g s CS x o b f cs) (h0 : ¬ 0 < x.size) (ho : bs o' = bs o ++ (if b && e then [32] else [])) : bs o' = uEncs (uPrep e g false true CS) := by
  obtain ⟨pre, h1, h2⟩ := h.pre
  have hcs : cs = [] := by
    have h3 := uEncs_len cs
    rw [← h.x, bs_len] at h3
    exact List.eq_nil_of_length_eq_zero (by omega)
  subst hcs
  rw [h1, uPrep_nil, uEncs_app, ho, h2]
  cases b <;> cases e <;> simp [uEncs, uEnc]
set_option maxRecDepth 8000 in
set_option maxHeartbeats 4000000 in
theorem refPrep_any (s : ByteArray) (e g : Bool) (w : World) (hs : s.size ≤ 100000) :
    Calls Tryd.prog 26 #[.string s, .bool e, .bool g] w fun en w' => ∃ x, en = .returned (.string x) ∧ bs x = uText e g (bs s) ∧ Below w.heap.size w w' := by
  have CC := Lib.hid (refCount_any s w (by omega))
  have CN : Hid (∀ x w, x.size ≤ 100000 → Calls Tryd.prog 7 #[.string x] w fun e w' => e = .returned (.tuple #[.int .i32 ((uNext (bs x)).1 : Int), .int .i64 ((uNext (bs x)).2 : Int)]) ∧ w' = w) := Lib.hid fun x w h => refNext_any x w (by omega)
  rcases hch : uChars (bs s) with _ | CS
  · have hcount : uCountI (bs s) = -1 := by unfold uCountI; rw [hch]
    have hx := uText_bad e g _ hch
    rw [hcount] at CC
    replace hx := Lib.hid hx
    replace hch := Lib.hid hch
    replace hcount := Lib.hid hcount
    go_enter Tryd.func26, Tryd.ntmps26
    go_wp2_with fail
    refine CC.out.mono ?_
    rintro _ w2 ⟨rfl, h2⟩
    subst w2
    dsimp only []
    go_wp2_with fail
    go_ret
    exact ⟨s, rfl, hx.out.symm, Below.refl _ _⟩
  · have hcount : uCountI (bs s) = (CS.length : Int) := by unfold uCountI; rw [hch]
    rw [hcount] at CC
    have hx := Lib.hid (uText_some e g _ CS hch)
    obtain ⟨hall, hbs⟩ := uChars_some hch
    have hlen : CS.length ≤ s.size := by
      have := uEncs_len CS
      rw [← hbs, bs_len] at this
      exact this
    obtain ⟨cl, hcl⟩ : ∃ cl, cl = CS.length := ⟨_, rfl⟩
    rw [← hcl] at CC hlen
    replace hcl := Lib.hid hcl
    have H0 := Lib.hid (PrepRel.of (e := e) (g := g) (CS := CS) (x := s) (o := ⟨#[]⟩) (b := false) (f := true) (cs := CS) (pre := []) hbs hall (by simp) rfl hbs)
    replace hch := Lib.hid hch
    replace hcount := Lib.hid hcount
    replace hall := Lib.hid hall
    replace hbs := Lib.hid hbs
    go_enter Tryd.func26, Tryd.ntmps26
    go_wp2_with fail
    refine CC.out.mono ?_
    rintro _ w2 ⟨rfl, h2⟩
    subst w2
    dsimp only []
    go_wp2_with fail
    go_loopw [0, 7, 8, 9] (fun sv ov bv fv wr => ∃ (x o : ByteArray) (b f : Bool) (cs : List Nat), sv = .string x ∧ ov = .string o ∧ bv = .bool b ∧ fv = .bool f ∧ x.size ≤ s.size ∧ Hid (PrepRel e g s CS x o b f cs) ∧ Hid (Below w.heap.size w wr)) (fun sv _ _ _ _ => lenS sv)
    case atStart => exact ⟨s, ⟨#[]⟩, false, true, CS, rfl, rfl, rfl, rfl, Nat.le_refl _, H0, Lib.hid (Below.refl _ _)⟩
    case round =>
      clear H0
      obtain ⟨x, o, b, f, cs, rfl, rfl, rfl, rfl, hxs, HP, HB⟩ := hrel
      have hole := HP.out.le
      have hz := HB.out.size
      by_cases h0 : 0 < x.size
      · obtain ⟨c, cs', rfl, hok, hnx⟩ := HP.out.next h0
        have CN1 := CN.out x wr (by omega)
        rw [hnx] at CN1
        obtain ⟨n, hn⟩ : ∃ n, n = (uEnc c).length := ⟨_, rfl⟩
        have hnp := uEnc_pos c
        have hnl := uNext_le (bs x)
        rw [hnx, bs_len] at hnl
        simp only at CN1 hnl
        rw [← hn] at CN1 hnp hnl
        obtain ⟨x', hx'⟩ : ∃ x', x.extract n x.size = x' := ⟨_, rfl⟩
        obtain ⟨y, hy⟩ : ∃ y, x.extract 0 n = y := ⟨_, rfl⟩
        have HX := Lib.hid (bs_rest x x' n hx')
        have HY : Hid (bs y = uEnc c) := Lib.hid (by
          rw [bs_own x y n hy, HP.out.x, uEncs_cons, hn]
          exact List.take_left' rfl)
        have hxs' : x'.size = x.size - n := by rw [← bs_len x', HX.out, List.length_drop, bs_len]
        have hlt : x'.size < x.size := by omega
        have hle' : x'.size ≤ s.size := by omega
        have hys : y.size = n := by rw [← bs_len y, HY.out, hn]
        rw [hn] at HX
        have hc1 := hok.1
        have i0 : (0 : Int) < (x.size : Int) := by omega
        have i1 : (n : Int) ≤ (x.size : Int) := by omega
        have i2 : (0 : Int) ≤ (n : Int) := by omega
        have Cn := refNothing_any c wr hc1
        have Cb := refBlank_any c wr hc1
        replace CN1 := Lib.hid CN1
        replace hn := Lib.hid hn
        replace hnx := Lib.hid hnx
        replace hok := Lib.hid hok
        replace hys := Lib.hid hys
        replace hxs' := Lib.hid hxs'
        rcases hnc : uNone c with _ | _
        · rcases hbc : uBlank c with _ | _
          · rw [hnc] at Cn
            rw [hbc] at Cb
            replace Cn := Lib.hid Cn
            replace Cb := Lib.hid Cb
            replace hnc := Lib.hid hnc
            replace hbc := Lib.hid hbc
            rcases b with _ | _
            · rcases f with _ | _
              · rcases e with _ | _
                · rcases g with _ | _
                  · go_wp2_with fail
                    refine CN1.out.mono ?_
                    rintro _ w2 ⟨rfl, h2⟩
                    subst w2
                    dsimp only []
                    go_wp2_with fail
                    refine Cn.out.mono ?_
                    rintro _ w2 ⟨rfl, h2⟩
                    subst w2
                    dsimp only []
                    go_wp2_with fail
                    refine Cb.out.mono ?_
                    rintro _ w2 ⟨rfl, h2⟩
                    subst w2
                    dsimp only []
                    have hs2 : y.size ≤ 4 := by rw [← bs_len, HY.out]; exact uEnc_le c
                    obtain ⟨o2, ho2⟩ : ∃ o2, o ++ y = o2 := ⟨_, rfl⟩
                    have HN := Lib.hid (HP.out.put (o' := o2) (y := y) HX.out hbs.out hnc.out hbc.out (by rw [HY.out]; rfl) (by rw [← ho2, bs_append]; simp))
                    go_wp2_with fail
                    exact ⟨⟨x', o2, false, false, cs', rfl, rfl, rfl, rfl, hle', HN, HB⟩, hlt⟩
                  · go_wp2_with fail
                    refine CN1.out.mono ?_
                    rintro _ w2 ⟨rfl, h2⟩
                    subst w2
                    dsimp only []
                    go_wp2_with fail
                    refine Cn.out.mono ?_
                    rintro _ w2 ⟨rfl, h2⟩
                    subst w2
                    dsimp only []
                    go_wp2_with fail
                    refine Cb.out.mono ?_
                    rintro _ w2 ⟨rfl, h2⟩
                    subst w2
                    dsimp only []
                    go_wp2_with fail
                    refine (refSmall_any y c wr hok.out HY.out).mono ?_
                    rintro _ w2 ⟨y2, rfl, hy2, hb2⟩
                    have HY2 := Lib.hid hy2
                    have HB2 := Lib.hid (HB.out.trans (hb2.mono hz))
                    have hs2 : y2.size ≤ 4 := by rw [← bs_len, hy2, uSmall_len]; exact uEnc_le c
                    clear hy2 hb2
                    dsimp only []
                    obtain ⟨o2, ho2⟩ : ∃ o2, o ++ y2 = o2 := ⟨_, rfl⟩
                    have HN := Lib.hid (HP.out.put (o' := o2) (y := y2) HX.out hbs.out hnc.out hbc.out (by rw [HY2.out]; rfl) (by rw [← ho2, bs_append]; simp))
                    go_wp2_with fail
                    exact ⟨⟨x', o2, false, false, cs', rfl, rfl, rfl, rfl, hle', HN, HB2⟩, hlt⟩
                · rcases g with _ | _
                  · go_wp2_with fail
                    refine CN1.out.mono ?_
                    rintro _ w2 ⟨rfl, h2⟩
                    subst w2
                    dsimp only []
                    go_wp2_with fail
                    refine Cn.out.mono ?_
                    rintro _ w2 ⟨rfl, h2⟩
                    subst w2
                    dsimp only []
                    go_wp2_with fail
                    refine Cb.out.mono ?_
                    rintro _ w2 ⟨rfl, h2⟩
                    subst w2
                    dsimp only []
                    have hs2 : y.size ≤ 4 := by rw [← bs_len, HY.out]; exact uEnc_le c
                    obtain ⟨o2, ho2⟩ : ∃ o2, o ++ y = o2 := ⟨_, rfl⟩
                    have HN := Lib.hid (HP.out.put (o' := o2) (y := y) HX.out hbs.out hnc.out hbc.out (by rw [HY.out]; rfl) (by rw [← ho2, bs_append]; simp))
                    go_wp2_with fail
                    exact ⟨⟨x', o2, false, false, cs', rfl, rfl, rfl, rfl, hle', HN, HB⟩, hlt⟩
                  · go_wp2_with fail
                    refine CN1.out.mono ?_
                    rintro _ w2 ⟨rfl, h2⟩
                    subst w2
                    dsimp only []
                    go_wp2_with fail
                    refine Cn.out.mono ?_
                    rintro _ w2 ⟨rfl, h2⟩
                    subst w2
                    dsimp only []
                    go_wp2_with fail
                    refine Cb.out.mono ?_
                    rintro _ w2 ⟨rfl, h2⟩
                    subst w2
                    dsimp only []
                    go_wp2_with fail
                    refine (refSmall_any y c wr hok.out HY.out).mono ?_
                    rintro _ w2 ⟨y2, rfl, hy2, hb2⟩
                    have HY2 := Lib.hid hy2
                    have HB2 := Lib.hid (HB.out.trans (hb2.mono hz))
                    have hs2 : y2.size ≤ 4 := by rw [← bs_len, hy2, uSmall_len]; exact uEnc_le c
                    clear hy2 hb2
                    dsimp only []
                    obtain ⟨o2, ho2⟩ : ∃ o2, o ++ y2 = o2 := ⟨_, rfl⟩
                    have HN := Lib.hid (HP.out.put (o' := o2) (y := y2) HX.out hbs.out hnc.out hbc.out (by rw [HY2.out]; rfl) (by rw [← ho2, bs_append]; simp))
                    go_wp2_with fail
                    exact ⟨⟨x', o2, false, false, cs', rfl, rfl, rfl, rfl, hle', HN, HB2⟩, hlt⟩
              · rcases e with _ | _
                · rcases g with _ | _
                  · go_wp2_with fail
                    refine CN1.out.mono ?_
                    rintro _ w2 ⟨rfl, h2⟩
                    subst w2
                    dsimp only []
                    go_wp2_with fail
                    refine Cn.out.mono ?_
                    rintro _ w2 ⟨rfl, h2⟩
                    subst w2
                    dsimp only []
                    go_wp2_with fail
                    refine Cb.out.mono ?_
                    rintro _ w2 ⟨rfl, h2⟩
                    subst w2
                    dsimp only []
                    have hs2 : y.size ≤ 4 := by rw [← bs_len, HY.out]; exact uEnc_le c
                    obtain ⟨o2, ho2⟩ : ∃ o2, o ++ y = o2 := ⟨_, rfl⟩
                    have HN := Lib.hid (HP.out.put (o' := o2) (y := y) HX.out hbs.out hnc.out hbc.out (by rw [HY.out]; rfl) (by rw [← ho2, bs_append]; simp))
                    go_wp2_with fail
                    exact ⟨⟨x', o2, false, false, cs', rfl, rfl, rfl, rfl, hle', HN, HB⟩, hlt⟩
                  · go_wp2_with fail
                    refine CN1.out.mono ?_
                    rintro _ w2 ⟨rfl, h2⟩
                    subst w2
                    dsimp only []
                    go_wp2_with fail
                    refine Cn.out.mono ?_
                    rintro _ w2 ⟨rfl, h2⟩
                    subst w2
                    dsimp only []
                    go_wp2_with fail
                    refine Cb.out.mono ?_
                    rintro _ w2 ⟨rfl, h2⟩
                    subst w2
                    dsimp only []
                    go_wp2_with fail
                    refine (refSmall_any y c wr hok.out HY.out).mono ?_
                    rintro _ w2 ⟨y2, rfl, hy2, hb2⟩
                    have HY2 := Lib.hid hy2
                    have HB2 := Lib.hid (HB.out.trans (hb2.mono hz))
                    have hs2 : y2.size ≤ 4 := by rw [← bs_len, hy2, uSmall_len]; exact uEnc_le c
                    clear hy2 hb2
                    dsimp only []
                    obtain ⟨o2, ho2⟩ : ∃ o2, o ++ y2 = o2 := ⟨_, rfl⟩
                    have HN := Lib.hid (HP.out.put (o' := o2) (y := y2) HX.out hbs.out hnc.out hbc.out (by rw [HY2.out]; rfl) (by rw [← ho2, bs_append]; simp))
                    go_wp2_with fail
                    exact ⟨⟨x', o2, false, false, cs', rfl, rfl, rfl, rfl, hle', HN, HB2⟩, hlt⟩
                · rcases g with _ | _
                  · go_wp2_with fail
                    refine CN1.out.mono ?_
                    rintro _ w2 ⟨rfl, h2⟩
                    subst w2
                    dsimp only []
                    go_wp2_with fail
                    refine Cn.out.mono ?_
                    rintro _ w2 ⟨rfl, h2⟩
                    subst w2
                    dsimp only []
                    go_wp2_with fail
                    refine Cb.out.mono ?_
                    rintro _ w2 ⟨rfl, h2⟩
                    subst w2
                    dsimp only []
                    have hs2 : y.size ≤ 4 := by rw [← bs_len, HY.out]; exact uEnc_le c
                    obtain ⟨o2, ho2⟩ : ∃ o2, o ++ y = o2 := ⟨_, rfl⟩
                    have HN := Lib.hid (HP.out.put (o' := o2) (y := y) HX.out hbs.out hnc.out hbc.out (by rw [HY.out]; rfl) (by rw [← ho2, bs_append]; simp))
                    go_wp2_with fail
                    exact ⟨⟨x', o2, false, false, cs', rfl, rfl, rfl, rfl, hle', HN, HB⟩, hlt⟩
                  · go_wp2_with fail
                    refine CN1.out.mono ?_
                    rintro _ w2 ⟨rfl, h2⟩
                    subst w2
                    dsimp only []
                    go_wp2_with fail
                    refine Cn.out.mono ?_
                    rintro _ w2 ⟨rfl, h2⟩
                    subst w2
                    dsimp only []
                    go_wp2_with fail
                    refine Cb.out.mono ?_
                    rintro _ w2 ⟨rfl, h2⟩
                    subst w2
                    dsimp only []
                    go_wp2_with fail
                    refine (refSmall_any y c wr hok.out HY.out).mono ?_
                    rintro _ w2 ⟨y2, rfl, hy2, hb2⟩
                    have HY2 := Lib.hid hy2
                    have HB2 := Lib.hid (HB.out.trans (hb2.mono hz))
                    have hs2 : y2.size ≤ 4 := by rw [← bs_len, hy2, uSmall_len]; exact uEnc_le c
                    clear hy2 hb2
                    dsimp only []
                    obtain ⟨o2, ho2⟩ : ∃ o2, o ++ y2 = o2 := ⟨_, rfl⟩
                    have HN := Lib.hid (HP.out.put (o' := o2) (y := y2) HX.out hbs.out hnc.out hbc.out (by rw [HY2.out]; rfl) (by rw [← ho2, bs_append]; simp))
                    go_wp2_with fail
                    exact ⟨⟨x', o2, false, false, cs', rfl, rfl, rfl, rfl, hle', HN, HB2⟩, hlt⟩
            · rcases f with _ | _
              · rcases e with _ | _
                · rcases g with _ | _
                  · obtain ⟨o1, ho1⟩ : ∃ o1, o ++ ⟨#[32]⟩ = o1 := ⟨_, rfl⟩
                    have HO1 : Hid (bs o1 = bs o ++ [32]) := Lib.hid (by rw [← ho1, bs_append]; rfl)
                    have hs1 : o1.size ≤ 100001 := by rw [← bs_len o1, HO1.out, List.length_append, bs_len]; show o.size + 1 ≤ _; omega
                    go_wp2_with fail
                    refine CN1.out.mono ?_
                    rintro _ w2 ⟨rfl, h2⟩
                    subst w2
                    dsimp only []
                    go_wp2_with fail
                    refine Cn.out.mono ?_
                    rintro _ w2 ⟨rfl, h2⟩
                    subst w2
                    dsimp only []
                    go_wp2_with fail
                    refine Cb.out.mono ?_
                    rintro _ w2 ⟨rfl, h2⟩
                    subst w2
                    dsimp only []
                    have hs2 : y.size ≤ 4 := by rw [← bs_len, HY.out]; exact uEnc_le c
                    obtain ⟨o2, ho2⟩ : ∃ o2, o1 ++ y = o2 := ⟨_, rfl⟩
                    have HN := Lib.hid (HP.out.put (o' := o2) (y := y) HX.out hbs.out hnc.out hbc.out (by rw [HY.out]; rfl) (by rw [← ho2, bs_append, HO1.out]; simp))
                    go_wp2_with fail
                    exact ⟨⟨x', o2, false, false, cs', rfl, rfl, rfl, rfl, hle', HN, HB⟩, hlt⟩
                  · obtain ⟨o1, ho1⟩ : ∃ o1, o ++ ⟨#[32]⟩ = o1 := ⟨_, rfl⟩
                    have HO1 : Hid (bs o1 = bs o ++ [32]) := Lib.hid (by rw [← ho1, bs_append]; rfl)
                    have hs1 : o1.size ≤ 100001 := by rw [← bs_len o1, HO1.out, List.length_append, bs_len]; show o.size + 1 ≤ _; omega
                    go_wp2_with fail
                    refine CN1.out.mono ?_
                    rintro _ w2 ⟨rfl, h2⟩
                    subst w2
                    dsimp only []
                    go_wp2_with fail
                    refine Cn.out.mono ?_
                    rintro _ w2 ⟨rfl, h2⟩
                    subst w2
                    dsimp only []
                    go_wp2_with fail
                    refine Cb.out.mono ?_
                    rintro _ w2 ⟨rfl, h2⟩
                    subst w2
                    dsimp only []
                    go_wp2_with fail
                    refine (refSmall_any y c wr hok.out HY.out).mono ?_
                    rintro _ w2 ⟨y2, rfl, hy2, hb2⟩
                    have HY2 := Lib.hid hy2
                    have HB2 := Lib.hid (HB.out.trans (hb2.mono hz))
                    have hs2 : y2.size ≤ 4 := by rw [← bs_len, hy2, uSmall_len]; exact uEnc_le c
                    clear hy2 hb2
                    dsimp only []
                    obtain ⟨o2, ho2⟩ : ∃ o2, o1 ++ y2 = o2 := ⟨_, rfl⟩
                    have HN := Lib.hid (HP.out.put (o' := o2) (y := y2) HX.out hbs.out hnc.out hbc.out (by rw [HY2.out]; rfl) (by rw [← ho2, bs_append, HO1.out]; simp))
                    go_wp2_with fail
                    exact ⟨⟨x', o2, false, false, cs', rfl, rfl, rfl, rfl, hle', HN, HB2⟩, hlt⟩
                · rcases g with _ | _
                  · obtain ⟨o1, ho1⟩ : ∃ o1, o ++ ⟨#[32]⟩ = o1 := ⟨_, rfl⟩
                    have HO1 : Hid (bs o1 = bs o ++ [32]) := Lib.hid (by rw [← ho1, bs_append]; rfl)
                    have hs1 : o1.size ≤ 100001 := by rw [← bs_len o1, HO1.out, List.length_append, bs_len]; show o.size + 1 ≤ _; omega
                    go_wp2_with fail
                    refine CN1.out.mono ?_
                    rintro _ w2 ⟨rfl, h2⟩
                    subst w2
                    dsimp only []
                    go_wp2_with fail
                    refine Cn.out.mono ?_
                    rintro _ w2 ⟨rfl, h2⟩
                    subst w2
                    dsimp only []
                    go_wp2_with fail
                    refine Cb.out.mono ?_
                    rintro _ w2 ⟨rfl, h2⟩
                    subst w2
                    dsimp only []
                    have hs2 : y.size ≤ 4 := by rw [← bs_len, HY.out]; exact uEnc_le c
                    obtain ⟨o2, ho2⟩ : ∃ o2, o1 ++ y = o2 := ⟨_, rfl⟩
                    have HN := Lib.hid (HP.out.put (o' := o2) (y := y) HX.out hbs.out hnc.out hbc.out (by rw [HY.out]; rfl) (by rw [← ho2, bs_append, HO1.out]; simp))
                    go_wp2_with fail
                    exact ⟨⟨x', o2, false, false, cs', rfl, rfl, rfl, rfl, hle', HN, HB⟩, hlt⟩
                  · obtain ⟨o1, ho1⟩ : ∃ o1, o ++ ⟨#[32]⟩ = o1 := ⟨_, rfl⟩
                    have HO1 : Hid (bs o1 = bs o ++ [32]) := Lib.hid (by rw [← ho1, bs_append]; rfl)
                    have hs1 : o1.size ≤ 100001 := by rw [← bs_len o1, HO1.out, List.length_append, bs_len]; show o.size + 1 ≤ _; omega
                    go_wp2_with fail
                    refine CN1.out.mono ?_
                    rintro _ w2 ⟨rfl, h2⟩
                    subst w2
                    dsimp only []
                    go_wp2_with fail
                    refine Cn.out.mono ?_
                    rintro _ w2 ⟨rfl, h2⟩
                    subst w2
                    dsimp only []
                    go_wp2_with fail
                    refine Cb.out.mono ?_
                    rintro _ w2 ⟨rfl, h2⟩
                    subst w2
                    dsimp only []
                    go_wp2_with fail
                    refine (refSmall_any y c wr hok.out HY.out).mono ?_
                    rintro _ w2 ⟨y2, rfl, hy2, hb2⟩
                    have HY2 := Lib.hid hy2
                    have HB2 := Lib.hid (HB.out.trans (hb2.mono hz))
                    have hs2 : y2.size ≤ 4 := by rw [← bs_len, hy2, uSmall_len]; exact uEnc_le c
                    clear hy2 hb2
                    dsimp only []
                    obtain ⟨o2, ho2⟩ : ∃ o2, o1 ++ y2 = o2 := ⟨_, rfl⟩
                    have HN := Lib.hid (HP.out.put (o' := o2) (y := y2) HX.out hbs.out hnc.out hbc.out (by rw [HY2.out]; rfl) (by rw [← ho2, bs_append, HO1.out]; simp))
                    go_wp2_with fail
                    exact ⟨⟨x', o2, false, false, cs', rfl, rfl, rfl, rfl, hle', HN, HB2⟩, hlt⟩
              · rcases e with _ | _
                · rcases g with _ | _
                  · go_wp2_with fail
                    refine CN1.out.mono ?_
                    rintro _ w2 ⟨rfl, h2⟩
                    subst w2
                    dsimp only []
                    go_wp2_with fail
                    refine Cn.out.mono ?_
                    rintro _ w2 ⟨rfl, h2⟩
                    subst w2
                    dsimp only []
                    go_wp2_with fail
                    refine Cb.out.mono ?_
                    rintro _ w2 ⟨rfl, h2⟩
                    subst w2
                    dsimp only []
                    have hs2 : y.size ≤ 4 := by rw [← bs_len, HY.out]; exact uEnc_le c
                    obtain ⟨o2, ho2⟩ : ∃ o2, o ++ y = o2 := ⟨_, rfl⟩
                    have HN := Lib.hid (HP.out.put (o' := o2) (y := y) HX.out hbs.out hnc.out hbc.out (by rw [HY.out]; rfl) (by rw [← ho2, bs_append]; simp))
                    go_wp2_with fail
                    exact ⟨⟨x', o2, false, false, cs', rfl, rfl, rfl, rfl, hle', HN, HB⟩, hlt⟩
                  · go_wp2_with fail
                    refine CN1.out.mono ?_
                    rintro _ w2 ⟨rfl, h2⟩
                    subst w2
                    dsimp only []
                    go_wp2_with fail
                    refine Cn.out.mono ?_
                    rintro _ w2 ⟨rfl, h2⟩
                    subst w2
                    dsimp only []
                    go_wp2_with fail
                    refine Cb.out.mono ?_
                    rintro _ w2 ⟨rfl, h2⟩
                    subst w2
                    dsimp only []
                    go_wp2_with fail
                    refine (refSmall_any y c wr hok.out HY.out).mono ?_
                    rintro _ w2 ⟨y2, rfl, hy2, hb2⟩
                    have HY2 := Lib.hid hy2
                    have HB2 := Lib.hid (HB.out.trans (hb2.mono hz))
                    have hs2 : y2.size ≤ 4 := by rw [← bs_len, hy2, uSmall_len]; exact uEnc_le c
                    clear hy2 hb2
                    dsimp only []
                    obtain ⟨o2, ho2⟩ : ∃ o2, o ++ y2 = o2 := ⟨_, rfl⟩
                    have HN := Lib.hid (HP.out.put (o' := o2) (y := y2) HX.out hbs.out hnc.out hbc.out (by rw [HY2.out]; rfl) (by rw [← ho2, bs_append]; simp))
                    go_wp2_with fail
                    exact ⟨⟨x', o2, false, false, cs', rfl, rfl, rfl, rfl, hle', HN, HB2⟩, hlt⟩
                · rcases g with _ | _
                  · obtain ⟨o1, ho1⟩ : ∃ o1, o ++ ⟨#[32]⟩ = o1 := ⟨_, rfl⟩
                    have HO1 : Hid (bs o1 = bs o ++ [32]) := Lib.hid (by rw [← ho1, bs_append]; rfl)
                    have hs1 : o1.size ≤ 100001 := by rw [← bs_len o1, HO1.out, List.length_append, bs_len]; show o.size + 1 ≤ _; omega
                    go_wp2_with fail
                    refine CN1.out.mono ?_
                    rintro _ w2 ⟨rfl, h2⟩
                    subst w2
                    dsimp only []
                    go_wp2_with fail
                    refine Cn.out.mono ?_
                    rintro _ w2 ⟨rfl, h2⟩
                    subst w2
                    dsimp only []
                    go_wp2_with fail
                    refine Cb.out.mono ?_
                    rintro _ w2 ⟨rfl, h2⟩
                    subst w2
                    dsimp only []
                    have hs2 : y.size ≤ 4 := by rw [← bs_len, HY.out]; exact uEnc_le c
                    obtain ⟨o2, ho2⟩ : ∃ o2, o1 ++ y = o2 := ⟨_, rfl⟩
                    have HN := Lib.hid (HP.out.put (o' := o2) (y := y) HX.out hbs.out hnc.out hbc.out (by rw [HY.out]; rfl) (by rw [← ho2, bs_append, HO1.out]; simp))
                    go_wp2_with fail
                    exact ⟨⟨x', o2, false, false, cs', rfl, rfl, rfl, rfl, hle', HN, HB⟩, hlt⟩
                  · obtain ⟨o1, ho1⟩ : ∃ o1, o ++ ⟨#[32]⟩ = o1 := ⟨_, rfl⟩
                    have HO1 : Hid (bs o1 = bs o ++ [32]) := Lib.hid (by rw [← ho1, bs_append]; rfl)
                    have hs1 : o1.size ≤ 100001 := by rw [← bs_len o1, HO1.out, List.length_append, bs_len]; show o.size + 1 ≤ _; omega
                    go_wp2_with fail
                    refine CN1.out.mono ?_
                    rintro _ w2 ⟨rfl, h2⟩
                    subst w2
                    dsimp only []
                    go_wp2_with fail
                    refine Cn.out.mono ?_
                    rintro _ w2 ⟨rfl, h2⟩
                    subst w2
                    dsimp only []
                    go_wp2_with fail
                    refine Cb.out.mono ?_
                    rintro _ w2 ⟨rfl, h2⟩
                    subst w2
                    dsimp only []
                    go_wp2_with fail
                    refine (refSmall_any y c wr hok.out HY.out).mono ?_
                    rintro _ w2 ⟨y2, rfl, hy2, hb2⟩
                    have HY2 := Lib.hid hy2
                    have HB2 := Lib.hid (HB.out.trans (hb2.mono hz))
                    have hs2 : y2.size ≤ 4 := by rw [← bs_len, hy2, uSmall_len]; exact uEnc_le c
                    clear hy2 hb2
                    dsimp only []
                    obtain ⟨o2, ho2⟩ : ∃ o2, o1 ++ y2 = o2 := ⟨_, rfl⟩
                    have HN := Lib.hid (HP.out.put (o' := o2) (y := y2) HX.out hbs.out hnc.out hbc.out (by rw [HY2.out]; rfl) (by rw [← ho2, bs_append, HO1.out]; simp))
                    go_wp2_with fail
                    exact ⟨⟨x', o2, false, false, cs', rfl, rfl, rfl, rfl, hle', HN, HB2⟩, hlt⟩
          · have HN := Lib.hid (HP.out.space HX.out hbs.out hnc hbc)
            rw [hnc] at Cn
            rw [hbc] at Cb
            replace Cn := Lib.hid Cn
            replace Cb := Lib.hid Cb
            replace hnc := Lib.hid hnc
            replace hbc := Lib.hid hbc
            go_wp2_with fail
            refine CN1.out.mono ?_
            rintro _ w2 ⟨rfl, h2⟩
            subst w2
            dsimp only []
            go_wp2_with fail
            refine Cn.out.mono ?_
            rintro _ w2 ⟨rfl, h2⟩
            subst w2
            dsimp only []
            go_wp2_with fail
            refine Cb.out.mono ?_
            rintro _ w2 ⟨rfl, h2⟩
            subst w2
            dsimp only []
            go_wp2_with fail
            exact ⟨⟨x', o, true, f, cs', rfl, rfl, rfl, rfl, hle', HN, HB⟩, hlt⟩
        · have HN := Lib.hid (HP.out.skip HX.out hbs.out hnc)
          rw [hnc] at Cn
          replace Cn := Lib.hid Cn
          replace hnc := Lib.hid hnc
          go_wp2_with fail
          refine CN1.out.mono ?_
          rintro _ w2 ⟨rfl, h2⟩
          subst w2
          dsimp only []
          go_wp2_with fail
          refine Cn.out.mono ?_
          rintro _ w2 ⟨rfl, h2⟩
          subst w2
          dsimp only []
          go_wp2_with fail
          exact ⟨⟨x', o, b, f, cs', rfl, rfl, rfl, rfl, hle', HN, HB⟩, hlt⟩
      · have i0 : ¬ ((0 : Int) < (x.size : Int)) := by omega
        rcases b with _ | _
        · rcases e with _ | _
          · have hf := Lib.hid (HP.out.fin (o' := o) h0 (by simp))
            go_wp2_with fail
            go_ret
            exact ⟨o, rfl, by rw [hf.out, hx.out], HB.out⟩
          · have hf := Lib.hid (HP.out.fin (o' := o) h0 (by simp))
            go_wp2_with fail
            go_ret
            exact ⟨o, rfl, by rw [hf.out, hx.out], HB.out⟩
        · rcases e with _ | _
          · have hf := Lib.hid (HP.out.fin (o' := o) h0 (by simp))
            go_wp2_with fail
            go_ret
            exact ⟨o, rfl, by rw [hf.out, hx.out], HB.out⟩
          · obtain ⟨o1, ho1⟩ : ∃ o1, o ++ ⟨#[32]⟩ = o1 := ⟨_, rfl⟩
            have hf := Lib.hid (HP.out.fin (o' := o1) h0 (by rw [← ho1, bs_append]; rfl))
            go_wp2_with fail
            go_ret
            exact ⟨o1, rfl, by rw [hf.out, hx.out], HB.out⟩
end Go.Proofs.YtjnnjncoejdhaaaDoor
