/-
  The program's Fold, Piece and Exact of any text, and all that its functions are to answer.
-/
import Derived.Test.YtjnnjncoejdhaaaDoorFSqz
import Derived.Test.YtjnnjncoejdhaaaDoorFNum
import Derived.Test.YtjnnjncoejdhaaaDoorFFind
import Derived.Test.YtjnnjncoejdhaaaDoorFHyp
import Derived.Shelf.Strings.Shaped
namespace Go.Proofs.YtjnnjncoejdhaaaDoor
open Go.RowKit

theorem mk_strB (l : List UInt8) : (⟨l.toArray⟩ : ByteArray) = strB (l.map UInt8.toNat) := (strB_bs ⟨l.toArray⟩).symm
theorem bs_mk (l : List UInt8) : bs ⟨l.toArray⟩ = l.map UInt8.toNat := rfl
set_option maxRecDepth 8000 in
set_option maxHeartbeats 800000 in
theorem trim_any (s : ByteArray) (w : World) (hs : s.size ≤ 200000) :
    Calls Tryd.prog 23 #[.string s] w fun e w' => ∃ x, e = .returned (.string x) ∧ bs x = trimN (bs s) ∧ Below w.heap.size w w' := by
  have C : Hid (Calls Tryd.prog 30 #[.string s, .string ⟨#[32]⟩] w fun e w' => e = .returned (.string ⟨(Lib.trimB s.data.toList 32).toArray⟩) ∧ (w' = w ∨ w' = w.drew)) := Lib.hid (Tryd.strings_Trim_one s 32 (by decide) w (by omega))
  go_enter Tryd.func23, Tryd.ntmps23
  go_wp2_with fail
  refine C.out.mono ?_
  rintro _ w2 ⟨rfl, h2⟩
  have hb : Hid (Below w.heap.size w w2) := Lib.hid (by rcases h2 with rfl | rfl; exact Below.refl _ _; exact (Below.refl _ _).drew)
  clear h2
  dsimp only []
  go_wp2_with fail
  go_ret
  exact ⟨_, rfl, by rw [bs_mk, trimB_nats]; rfl, hb.out⟩
set_option maxRecDepth 8000 in
set_option maxHeartbeats 800000 in
theorem letters_any (s : ByteArray) (cs : List Nat) (w : World) (hs : s.size ≤ 200000) (ha : uAll cs) (hcs : bs s = uEncs cs) (hT : Tabs w) :
    Calls Tryd.prog 24 #[.string s] w fun e w' => ∃ x, e = .returned (.string x) ∧ bs x = uEncs (cs.map uSmall) ∧ Below w.heap.size w w' := by
  have C := Lib.hid (map_any s w (by omega) hT)
  have hm := Lib.hid (mapD_u cs s.data.toList ha hcs)
  replace hcs := Lib.hid hcs
  replace ha := Lib.hid ha
  replace hT := Lib.hid hT
  go_enter Tryd.func24, Tryd.ntmps24
  go_wp2_with fail
  refine C.out.mono ?_
  rintro _ w2 ⟨rfl, h2⟩
  dsimp only []
  go_wp2_with fail
  go_ret
  exact ⟨_, rfl, hm.out, h2⟩
set_option maxRecDepth 8000 in
set_option maxHeartbeats 800000 in
theorem clone_any (s : ByteArray) (w : World) (hs : s.size ≤ 200000) :
    Calls Tryd.prog 22 #[.string s] w fun e w' => e = .returned (.string s) ∧ Below w.heap.size w w' := by
  have C := Lib.hid (Tryd.stringslite_Clone s w (by omega))
  go_enter Tryd.func22, Tryd.ntmps22
  go_wp2_with fail
  refine C.out.mono ?_
  rintro _ w2 ⟨rfl, h2⟩
  dsimp only []
  go_wp2_with fail
  go_ret
  exact ⟨rfl, h2⟩
theorem right_cs {s : ByteArray} (h : rightB s = true) : ∃ cs, uChars (bs s) = some cs := by
  unfold rightB at h
  exact Option.isSome_iff_exists.1 h
theorem text_bad {e g : Bool} {s : ByteArray} (h : rightB s = false) : txt e g s = s := by
  unfold txt
  rw [uText_bad _ _ _ (by unfold rightB at h; simpa using h), strB_bs]
theorem text_of {e g : Bool} {s x : ByteArray} {cs : List Nat} (hcs : uChars (bs s) = some cs) (h : bs x = uEncs (uPrep e g false true cs)) : x = txt e g s := by
  unfold txt
  rw [uText_some _ _ _ _ hcs, ← h, strB_bs]
theorem prep_size {e g : Bool} {s x : ByteArray} {cs : List Nat} (hcs : uChars (bs s) = some cs) (h : bs x = uEncs (uPrep e g false true cs)) : x.size ≤ s.size := by
  have h1 := uPrep_len e g cs false true
  rw [← h, ← (uChars_some hcs).2, bs_len, bs_len] at h1
  simpa using h1
theorem sqz_text (cs : List Nat) : sqz false cs = uPrep true false false true cs := ((sqz_prep cs true).1).symm
set_option maxRecDepth 8000 in
set_option maxHeartbeats 800000 in
theorem fold_any (s : ByteArray) (w : World) (hs : s.size ≤ 100000) (hT : Tabs w) :
    Calls Tryd.prog 13 #[.string s] w fun e w' => e = .returned (.string (txt false true s)) ∧ Below w.heap.size w w' := by
  have CR := right_any s w (by omega) hT
  by_cases hr : rightB s = true
  · obtain ⟨cs, hcs⟩ := right_cs hr
    rw [hr] at CR
    replace CR := Lib.hid CR
    replace hr := Lib.hid hr
    have H := Lib.hid hcs
    clear hcs
    replace hT := Lib.hid hT
    go_enter Tryd.func13, Tryd.ntmps13
    go_wp2_with fail
    refine CR.out.mono ?_
    rintro _ w2 ⟨rfl, h2⟩
    replace h2 := Lib.hid h2
    dsimp only []
    go_wp2_with fail
    refine (squeeze_any s cs w2 hs H.out).mono ?_
    rintro _ w3 ⟨x1, rfl, hx1, h3⟩
    rw [sqz_text] at hx1
    have hz1 := prep_size H.out hx1
    replace hx1 := Lib.hid hx1
    replace h3 := Lib.hid (h2.out.trans (h3.mono h2.out.size))
    dsimp only []
    go_wp2_with fail
    refine (letters_any x1 _ w3 (by omega) (uPrep_ok true false cs false true (uChars_some H.out).1) hx1.out (hT.out.below h3.out)).mono ?_
    rintro _ w4 ⟨x2, rfl, hx2, h4⟩
    rw [prep_small] at hx2
    have hz2 := prep_size H.out hx2
    replace hx2 := Lib.hid hx2
    replace h4 := Lib.hid (h3.out.trans (h4.mono h3.out.size))
    dsimp only []
    go_wp2_with fail
    refine (trim_any x2 w4 (by omega)).mono ?_
    rintro _ w5 ⟨x3, rfl, hx3, h5⟩
    rw [hx2.out, trim_prep] at hx3
    replace hx3 := Lib.hid hx3
    replace h5 := Lib.hid (h4.out.trans (h5.mono h4.out.size))
    dsimp only []
    go_wp2_with fail
    go_ret
    exact ⟨by rw [← text_of H.out hx3.out]; rfl, h5.out⟩
  · have hr' : rightB s = false := by simpa using hr
    rw [text_bad hr']
    rw [hr'] at CR
    replace CR := Lib.hid CR
    replace hr' := Lib.hid hr'
    clear hr
    replace hT := Lib.hid hT
    go_enter Tryd.func13, Tryd.ntmps13
    go_wp2_with fail
    refine CR.out.mono ?_
    rintro _ w2 ⟨rfl, h2⟩
    replace h2 := Lib.hid h2
    dsimp only []
    go_wp2_with fail
    refine (clone_any s w2 (by omega)).mono ?_
    rintro _ w3 ⟨rfl, h3⟩
    replace h3 := Lib.hid (h2.out.trans (h3.mono h2.out.size))
    dsimp only []
    go_wp2_with fail
    go_ret
    exact ⟨rfl, h3.out⟩
set_option maxRecDepth 8000 in
set_option maxHeartbeats 800000 in
theorem piece_any (s : ByteArray) (w : World) (hs : s.size ≤ 100000) (hT : Tabs w) :
    Calls Tryd.prog 15 #[.string s] w fun e w' => e = .returned (.string (txt true true s)) ∧ Below w.heap.size w w' := by
  have CR := right_any s w (by omega) hT
  by_cases hr : rightB s = true
  · obtain ⟨cs, hcs⟩ := right_cs hr
    rw [hr] at CR
    replace CR := Lib.hid CR
    replace hr := Lib.hid hr
    have H := Lib.hid hcs
    clear hcs
    replace hT := Lib.hid hT
    go_enter Tryd.func15, Tryd.ntmps15
    go_wp2_with fail
    refine CR.out.mono ?_
    rintro _ w2 ⟨rfl, h2⟩
    replace h2 := Lib.hid h2
    dsimp only []
    go_wp2_with fail
    refine (squeeze_any s cs w2 hs H.out).mono ?_
    rintro _ w3 ⟨x1, rfl, hx1, h3⟩
    rw [sqz_text] at hx1
    have hz1 := prep_size H.out hx1
    replace hx1 := Lib.hid hx1
    replace h3 := Lib.hid (h2.out.trans (h3.mono h2.out.size))
    dsimp only []
    go_wp2_with fail
    refine (letters_any x1 _ w3 (by omega) (uPrep_ok true false cs false true (uChars_some H.out).1) hx1.out (hT.out.below h3.out)).mono ?_
    rintro _ w4 ⟨x2, rfl, hx2, h4⟩
    rw [prep_small] at hx2
    replace hx2 := Lib.hid hx2
    replace h4 := Lib.hid (h3.out.trans (h4.mono h3.out.size))
    dsimp only []
    go_wp2_with fail
    go_ret
    exact ⟨by rw [← text_of H.out hx2.out]; rfl, h4.out⟩
  · have hr' : rightB s = false := by simpa using hr
    rw [text_bad hr']
    rw [hr'] at CR
    replace CR := Lib.hid CR
    replace hr' := Lib.hid hr'
    clear hr
    replace hT := Lib.hid hT
    go_enter Tryd.func15, Tryd.ntmps15
    go_wp2_with fail
    refine CR.out.mono ?_
    rintro _ w2 ⟨rfl, h2⟩
    replace h2 := Lib.hid h2
    dsimp only []
    go_wp2_with fail
    refine (clone_any s w2 (by omega)).mono ?_
    rintro _ w3 ⟨rfl, h3⟩
    replace h3 := Lib.hid (h2.out.trans (h3.mono h2.out.size))
    dsimp only []
    go_wp2_with fail
    go_ret
    exact ⟨rfl, h3.out⟩
set_option maxRecDepth 8000 in
set_option maxHeartbeats 800000 in
theorem exact_any (s : ByteArray) (w : World) (hs : s.size ≤ 100000) (hT : Tabs w) :
    Calls Tryd.prog 17 #[.string s] w fun e w' => e = .returned (.string (txt false false s)) ∧ Below w.heap.size w w' := by
  have CR := right_any s w (by omega) hT
  by_cases hr : rightB s = true
  · obtain ⟨cs, hcs⟩ := right_cs hr
    rw [hr] at CR
    replace CR := Lib.hid CR
    replace hr := Lib.hid hr
    have H := Lib.hid hcs
    clear hcs
    replace hT := Lib.hid hT
    go_enter Tryd.func17, Tryd.ntmps17
    go_wp2_with fail
    refine CR.out.mono ?_
    rintro _ w2 ⟨rfl, h2⟩
    replace h2 := Lib.hid h2
    dsimp only []
    go_wp2_with fail
    refine (squeeze_any s cs w2 hs H.out).mono ?_
    rintro _ w3 ⟨x1, rfl, hx1, h3⟩
    rw [sqz_text] at hx1
    have hz1 := prep_size H.out hx1
    replace hx1 := Lib.hid hx1
    replace h3 := Lib.hid (h2.out.trans (h3.mono h2.out.size))
    dsimp only []
    go_wp2_with fail
    refine (trim_any x1 w3 (by omega)).mono ?_
    rintro _ w5 ⟨x3, rfl, hx3, h5⟩
    rw [hx1.out, trim_prep] at hx3
    replace hx3 := Lib.hid hx3
    replace h5 := Lib.hid (h3.out.trans (h5.mono h3.out.size))
    dsimp only []
    go_wp2_with fail
    go_ret
    exact ⟨by rw [← text_of H.out hx3.out]; rfl, h5.out⟩
  · have hr' : rightB s = false := by simpa using hr
    rw [text_bad hr']
    rw [hr'] at CR
    replace CR := Lib.hid CR
    replace hr' := Lib.hid hr'
    clear hr
    replace hT := Lib.hid hT
    go_enter Tryd.func17, Tryd.ntmps17
    go_wp2_with fail
    refine CR.out.mono ?_
    rintro _ w2 ⟨rfl, h2⟩
    replace h2 := Lib.hid h2
    dsimp only []
    go_wp2_with fail
    refine (clone_any s w2 (by omega)).mono ?_
    rintro _ w3 ⟨rfl, h3⟩
    replace h3 := Lib.hid (h2.out.trans (h3.mono h2.out.size))
    dsimp only []
    go_wp2_with fail
    go_ret
    exact ⟨rfl, h3.out⟩
theorem cell_lt {w : World} {a : Addr} {v : Value} (h : w.cell? a = some v) : a.block < w.heap.size := by
  rcases Nat.lt_or_ge a.block w.heap.size with h' | h'
  · exact h'
  · simp [World.cell?, Array.getElem?_eq_none h'] at h
theorem maxLen_of {W : World} (h : W.ShapedOpen Tryd.prog) : ∃ m, W.cell? ⟨2, 0, none⟩ = some (.int .i64 m) := Tryd.laysM143.s1_3 W h
theorem fhyp (W : World) (hT : Tabs W) (h : W.ShapedOpen Tryd.prog) : FHyp W := by
  obtain ⟨m, hm⟩ := maxLen_of h
  exact {
    next := fun s w' _ hb => next_any s w' (hT.below hb)
    right := fun s w' hs hb => right_any s w' (by omega) (hT.below hb)
    count := fun s w' hs hb => count_any s w' (by omega) (hT.below hb)
    fold := fun s w' hs hb => fold_any s w' hs (hT.below hb)
    piece := fun s w' hs hb => piece_any s w' hs (hT.below hb)
    exact := fun s w' hs hb => exact_any s w' hs (hT.below hb)
    num := fun s w' hs _ => num_any s w' hs
    find := fun s t z w' hs _ h1 h2 hb => (find_any s t z w' m hs h1 h2 ((hb.cell (cell_lt hm)).trans hm)).mono fun e w'' ⟨he, hw⟩ => ⟨he, hw ▸ Below.refl _ _⟩ }
end Go.Proofs.YtjnnjncoejdhaaaDoor
