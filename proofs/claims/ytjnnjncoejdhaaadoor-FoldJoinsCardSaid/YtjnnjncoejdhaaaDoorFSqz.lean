/-
  The program's squeeze of any valid text.
-/
import Derived.Test.YtjnnjncoejdhaaaDoorFSmall
namespace Go.Proofs.YtjnnjncoejdhaaaDoor
open Go.RowKit

/-- What a round leaves: what is written and what is still to be read make the whole. -/
structure SqRel (cs : List Nat) (s : ByteArray) (pos : Nat) (acc : List UInt8) (ab : Bool) : Prop where
  ex : ∃ rest, uAll rest ∧ (bs s).drop pos = uEncs rest ∧ acc.map UInt8.toNat ++ uEncs (sqz ab rest) = uEncs (sqz false cs)
theorem SqRel.of {cs : List Nat} {s : ByteArray} (ha : uAll cs) (h : bs s = uEncs cs) : SqRel cs s 0 [] false := ⟨cs, ha, by rw [List.drop_zero, h], rfl⟩
/-- The next character. -/
theorem SqRel.next {cs : List Nat} {s : ByteArray} {pos : Nat} {acc : List UInt8} {ab : Bool} (h : SqRel cs s pos acc ab) (hp : pos < s.size) :
    ∃ c, uOk c ∧ Utf8.decode s pos = (c, (uEnc c).length) ∧
      (∀ acc' ab', (∀ rest, acc'.map UInt8.toNat ++ uEncs (sqz ab' rest) = acc.map UInt8.toNat ++ uEncs (sqz ab (c :: rest))) → SqRel cs s (pos + (uEnc c).length) acc' ab') := by
  obtain ⟨rest, h1, h2, h3⟩ := h.ex
  rcases rest with _ | ⟨c, r⟩
  · have := congrArg List.length h2
    rw [List.length_drop, bs_len] at this
    simp [uEncs] at this
    omega
  · have hc := h1 c (List.mem_cons_self ..)
    have hl := uEnc_pos c
    refine ⟨c, hc, ?_, fun acc' ab' he => ⟨r, fun x hx => h1 x (List.mem_cons_of_mem _ hx), ?_, ?_⟩⟩
    · rw [decode_u s pos hp, h2, uEncs_cons, uNext_enc c _ hc, if_neg (by show ¬ _ = 0; omega)]
    · rw [← List.drop_drop, h2, uEncs_cons, List.drop_left' rfl]
    · rw [he r, h3]
theorem SqRel.fin {cs : List Nat} {s : ByteArray} {pos : Nat} {acc : List UInt8} {ab : Bool} (h : SqRel cs s pos acc ab) (hp : ¬ pos < s.size) : acc.map UInt8.toNat = uEncs (sqz false cs) := by
  obtain ⟨rest, h1, h2, h3⟩ := h.ex
  rw [List.drop_of_length_le (by rw [bs_len]; omega)] at h2
  rcases rest with _ | ⟨c, r⟩
  · rw [← h3]
    simp [sqz, uEncs]
  · rw [uEncs_cons] at h2
    have := congrArg List.length h2
    have hl := uEnc_pos c
    rw [List.length_append] at this
    simp at this
    omega
theorem SqRel.skip {cs : List Nat} {s : ByteArray} {c n : Nat} {acc : List UInt8} {ab : Bool} (hb : uBlank c = true)
    (hn : ∀ acc' ab', (∀ rest, acc'.map UInt8.toNat ++ uEncs (sqz ab' rest) = acc.map UInt8.toNat ++ uEncs (sqz ab (c :: rest))) → SqRel cs s n acc' ab') (hab : ab = true) : SqRel cs s n acc true :=
  hn acc true fun r => by rw [sqz_blank _ _ _ hb, hab]; rfl
theorem SqRel.blank {cs : List Nat} {s : ByteArray} {c n : Nat} {acc : List UInt8} {ab : Bool} (hb : uBlank c = true)
    (hn : ∀ acc' ab', (∀ rest, acc'.map UInt8.toNat ++ uEncs (sqz ab' rest) = acc.map UInt8.toNat ++ uEncs (sqz ab (c :: rest))) → SqRel cs s n acc' ab') (hab : ab = false) : SqRel cs s n (acc ++ Lib.encodeRune 32) true :=
  hn _ true fun r => by
    rw [sqz_blank _ _ _ hb, hab, List.map_append, uEncs_app, List.append_assoc]
    rfl
theorem SqRel.none_ {cs : List Nat} {s : ByteArray} {c n : Nat} {acc : List UInt8} {ab : Bool} (hb : uBlank c = false) (h1 : uNone c = true)
    (hn : ∀ acc' ab', (∀ rest, acc'.map UInt8.toNat ++ uEncs (sqz ab' rest) = acc.map UInt8.toNat ++ uEncs (sqz ab (c :: rest))) → SqRel cs s n acc' ab') : SqRel cs s n acc ab :=
  hn acc ab fun r => by rw [sqz_none _ _ _ hb h1]
theorem SqRel.put {cs : List Nat} {s : ByteArray} {c n : Nat} {acc : List UInt8} {ab : Bool} (hc : uOk c) (hb : uBlank c = false) (h1 : uNone c = false)
    (hn : ∀ acc' ab', (∀ rest, acc'.map UInt8.toNat ++ uEncs (sqz ab' rest) = acc.map UInt8.toNat ++ uEncs (sqz ab (c :: rest))) → SqRel cs s n acc' ab') : SqRel cs s n (acc ++ Lib.encodeRune (c : Int)) false :=
  hn _ false fun r => by
    rw [sqz_other _ _ _ hb h1, uEncs_cons, List.map_append, encodeRune_u c hc, List.append_assoc]
theorem rune_len (r : Int) : (Lib.encodeRune r).length ≤ 4 := by
  have := Lib.runeCells_le r
  rw [Lib.runeCells_length] at this
  omega
set_option maxRecDepth 1000000 in
set_option maxHeartbeats 4000000 in
theorem squeeze_any (s : ByteArray) (cs : List Nat) (w : World) (hs : s.size ≤ 100000) (hcs : uChars (bs s) = some cs) :
    Calls Tryd.prog 25 #[.string s] w fun e w' => ∃ x, e = .returned (.string x) ∧ bs x = uEncs (sqz false cs) ∧ Below w.heap.size w w' := by
  have hR0 := SqRel.of (uChars_some hcs).1 (uChars_some hcs).2
  replace hR0 := Lib.hid hR0
  replace hcs := Lib.hid hcs
  go_enter Tryd.func25, Tryd.ntmps25
  go_wp2_with fail
  refine (Tryd.Builder_Grow_fresh w.heap.size w.heap.size s.size _ (Nat.le_refl _) (heap_alloc_new w _) (by simp) (by omega)).mono ?_
  rintro _ w1 ⟨rfl, hg, hb⟩
  have HG : Hid (Lib.IsBuilderF 40 5 w.heap.size w.heap.size (Lib.byteCells []) w1) := Lib.hid (Lib.IsBuilderF.of (.inr hg))
  have HB1 : Hid (Below w.heap.size w w1) := Lib.hid (((Below.refl _ _).alloc (Nat.le_refl _) _).trans hb)
  have hz1 : w.heap.size < w1.heap.size := by
    obtain ⟨_, v, hv, _⟩ := hg
    exact (Array.getElem?_eq_some_iff.1 hv).1
  clear hg hb
  dsimp only []
  go_wp2_with fail
  go_loopw [4] (fun av wr => ∃ (pos : Nat) (acc : List UInt8) (ab : Bool), av = .bool ab ∧ Hid (Lib.IsBuilderF 40 5 w.heap.size w.heap.size (Lib.byteCells acc) wr) ∧ Hid (wr.heap[w1.heap.size]? = some (.stringIter s pos)) ∧ Hid (Below w.heap.size w wr) ∧ Hid (SqRel cs s pos acc ab) ∧ acc.length ≤ 4 * pos) (fun _ wr => s.size - wr.iterPos w1.heap.size)
  case atStart =>
    refine ⟨0, [], false, rfl, Lib.hid (HG.out.alloc _), Lib.hid ?_, Lib.hid (HB1.out.alloc (by omega) _), hR0, Nat.zero_le _⟩
    exact World.iter_heap w1 s 0
  case round =>
    obtain ⟨pos, acc, ab, rfl, HI, HT, HB, HR, hal⟩ := hrel
    have hsz : w1.heap.size < wr.heap.size := (Array.getElem?_eq_some_iff.1 HT.out).1
    by_cases hp : pos < s.size
    · obtain ⟨c, hc, hd, hn⟩ := HR.out.next hp
      have hcb : c ≤ 1114111 := hc.1
      have hnx : ∀ ty, (Instr.next (.pointer (some ⟨w1.heap.size, 0, none⟩)) true ty).run Tryd.prog wr = _ := fun ty => Lib.run_next_any_at wr w1.heap.size s pos ty HT.out hp
      rw [hd] at hnx
      have hd1 := decode_le s pos
      obtain ⟨n, hnn⟩ : ∃ n, n = pos + (uEnc c).length := ⟨_, rfl⟩
      have hlp := uEnc_pos c
      obtain ⟨W, hW⟩ : ∃ W, W = wr.iterAt w1.heap.size s (pos + (uEnc c).length) := ⟨_, rfl⟩
      have hI2 := HI.out.iterAt HT.out (pos + (uEnc c).length)
      have hit2 := Lib.iterAt_heap wr w1.heap.size s pos (pos + (uEnc c).length) HT.out
      have hbw2 := Lib.below_iterAt HB.out (k := w1.heap.size) (by omega) s (pos + (uEnc c).length)
      have hsz2 : w.heap.size ≤ (wr.iterAt w1.heap.size s (pos + (uEnc c).length)).heap.size := by rw [Lib.iterAt_size]; omega
      have hps : wr.iterPos w1.heap.size = pos := by simp only [World.iterPos, HT.out]
      dsimp only [] at hnx
      rw [← hW] at hI2 hit2 hbw2 hsz2 hnx
      rw [← hnn] at hn hit2
      have HI2 := Lib.hid hI2
      have HIT := Lib.hid hit2
      have HBW := Lib.hid hbw2
      have HN := Lib.hid hn
      have hmn : pos < n := by omega
      have hac : acc.length + 4 ≤ 4 * n := by omega
      have hac2 : acc.length ≤ 1000000 := by omega
      replace hnn := Lib.hid hnn
      replace hW := Lib.hid hW
      replace hd := Lib.hid hd
      replace hps := Lib.hid hps
      replace hlp := Lib.hid hlp
      clear hI2 hit2 hbw2 hn
      by_cases hB : uBlank c = true
      · have hcase : c = 9 ∨ c = 10 ∨ c = 11 ∨ c = 12 ∨ c = 13 ∨ c = 133 ∨ c = 160 ∨ c = 32 := by
          unfold uBlank at hB
          have := of_decide_eq_true hB
          omega
        have HH := Lib.hid hB
        clear hB
        by_cases hab : ab = true
        · have HS := Lib.hid (SqRel.skip HH.out HN.out hab)
          subst hab
          rcases hcase with rfl | rfl | rfl | rfl | rfl | rfl | rfl | rfl
          all_goals
            go_wp2_with fail
            go_roundw
            case rel => exact ⟨n, acc, true, rfl, HI2, HIT, HBW, HS, by omega⟩
            case measure =>
              rw [hps.out]
              simp only [World.iterPos, HIT.out]
              omega
        · have hab' : ab = false := by simpa using hab
          have HS := Lib.hid (SqRel.blank HH.out HN.out hab')
          subst hab'
          clear hab
          have C := Lib.hid (wrune_any w.heap.size w.heap.size (Lib.byteCells acc) 32 (by omega) (by omega) W HI2.out (by rw [Lib.byteCells_length]; omega) hsz2)
          rcases hcase with rfl | rfl | rfl | rfl | rfl | rfl | rfl | rfl
          all_goals
            go_wp2_with fail
            refine C.out.mono ?_
            rintro _ W1 ⟨rfl, h1, b1, k1⟩
            have J1 : Hid (Lib.IsBuilderF 40 5 w.heap.size w.heap.size (Lib.byteCells (acc ++ Lib.encodeRune 32)) W1) := Lib.hid (by rw [Lib.byteCells_append, Lib.byteCells_encodeRune]; exact Or.inr h1)
            have J2 := Lib.hid (k1.iter HIT.out (by omega))
            have J3 := Lib.hid (HBW.out.trans b1)
            clear h1 b1 k1
            dsimp only []
            go_wp2_with fail
            go_roundw
            case rel => exact ⟨n, acc ++ Lib.encodeRune 32, true, rfl, J1, J2, J3, HS, by rw [List.length_append]; have := rune_len 32; omega⟩
            case measure =>
              rw [hps.out]
              simp only [World.iterPos, J2.out]
              omega
      · have hB' : uBlank c = false := by simpa using hB
        have hne : ¬ (9 ≤ c ∧ c ≤ 13 ∨ c = 32 ∨ c = 133 ∨ c = 160) := by
          unfold uBlank at hB'
          exact of_decide_eq_false hB'
        have t9 : ((c : Int) == 9) = false := beq_eq_false_iff_ne.2 (by omega)
        have t10 : ((c : Int) == 10) = false := beq_eq_false_iff_ne.2 (by omega)
        have t11 : ((c : Int) == 11) = false := beq_eq_false_iff_ne.2 (by omega)
        have t12 : ((c : Int) == 12) = false := beq_eq_false_iff_ne.2 (by omega)
        have t13 : ((c : Int) == 13) = false := beq_eq_false_iff_ne.2 (by omega)
        have t133 : ((c : Int) == 133) = false := beq_eq_false_iff_ne.2 (by omega)
        have t160 : ((c : Int) == 160) = false := beq_eq_false_iff_ne.2 (by omega)
        have t32 : ((c : Int) == 32) = false := beq_eq_false_iff_ne.2 (by omega)
        replace hne := Lib.hid hne
        have HH := Lib.hid hB'
        clear hB hB'
        have CI := ignored_any c W hcb HH.out
        by_cases hN : uNone c = true
        · rw [hN] at CI
          have HS := Lib.hid (SqRel.none_ HH.out hN HN.out)
          replace CI := Lib.hid CI
          replace hN := Lib.hid hN
          go_wp2_with fail
          refine CI.out.mono ?_
          rintro _ W2 ⟨rfl, h3⟩
          subst W2
          dsimp only []
          go_wp2_with fail
          go_roundw
          case rel => exact ⟨n, acc, ab, rfl, HI2, HIT, HBW, HS, by omega⟩
          case measure =>
            rw [hps.out]
            simp only [World.iterPos, HIT.out]
            omega
        · have hN' : uNone c = false := by simpa using hN
          rw [hN'] at CI
          have HS := Lib.hid (SqRel.put hc HH.out hN' HN.out)
          have C := Lib.hid (wrune_any w.heap.size w.heap.size (Lib.byteCells acc) (c : Int) (by omega) (by omega) W HI2.out (by rw [Lib.byteCells_length]; omega) hsz2)
          replace CI := Lib.hid CI
          replace hN' := Lib.hid hN'
          clear hN
          go_wp2_with fail
          refine CI.out.mono ?_
          rintro _ W2 ⟨rfl, h3⟩
          subst W2
          dsimp only []
          go_wp2_with fail
          refine C.out.mono ?_
          rintro _ W1 ⟨rfl, h1, b1, k1⟩
          have J1 : Hid (Lib.IsBuilderF 40 5 w.heap.size w.heap.size (Lib.byteCells (acc ++ Lib.encodeRune (c : Int))) W1) := Lib.hid (by rw [Lib.byteCells_append, Lib.byteCells_encodeRune]; exact Or.inr h1)
          have J2 := Lib.hid (k1.iter HIT.out (by omega))
          have J3 := Lib.hid (HBW.out.trans b1)
          clear h1 b1 k1
          dsimp only []
          go_wp2_with fail
          go_roundw
          case rel => exact ⟨n, acc ++ Lib.encodeRune (c : Int), false, rfl, J1, J2, J3, HS, by rw [List.length_append]; have := rune_len (c : Int); omega⟩
          case measure =>
            rw [hps.out]
            simp only [World.iterPos, J2.out]
            omega
    · have hfin := HR.out.fin hp
      have hnx : ∀ ty, (Instr.next (.pointer (some ⟨w1.heap.size, 0, none⟩)) true ty).run Tryd.prog wr = _ := fun ty => Lib.run_next_end_at wr w1.heap.size s pos ty HT.out hp
      have C := Lib.hid (Tryd.Builder_String_any_k w.heap.size w.heap.size acc wr HI.out (by omega))
      replace hfin := Lib.hid hfin
      go_wp2_with fail
      refine C.out.mono ?_
      rintro _ W1 ⟨rfl, _, b1, _⟩
      dsimp only []
      go_wp2_with fail
      go_ret
      exact ⟨_, rfl, hfin.out, HB.out.trans b1⟩
end Go.Proofs.YtjnnjncoejdhaaaDoor
