/-
  The document's identifier of bytes.
-/
import Derived.Test.YtpmcdkalmdlahaaDoorRefPut7
import Derived.Test.YtpmcdkalmdlahaaDoorStr
import Derived.Deep.QuietTactic
import Derived.BigQuiet
import Derived.BigGuardPart
namespace Go.Proofs.YtpmcdkalmdlahaaDoor
open Go.RowKit Go.Lib

theorem baO_app (a b : List UInt8) : baO a ++ baO b = baO (a ++ b) := by
  refine eq_baO ?_
  rw [ByteArray.data_append, Array.toList_append, baO_list, baO_list]
theorem baO_size (l : List UInt8) : (baO l).size = l.length := by simp [baO, ByteArray.size]
theorem dec_len15 (n : Nat) (h : n ≤ 100000000000000) : (decDigits n).length ≤ 15 := by
  rw [decDigits_length]
  exact nDigits_le 14 n (by omega)
theorem refDig_any (n : Nat) (w : World) (h : n ≤ 100000000000000) : Calls Tryd.prog 29 #[.int .i64 (n : Int)] w fun e w' => e = .returned (.string (baO (decDigits n))) ∧ w' = w := by
  have := digits_any n (n : Int) w (by simp) (by omega) (by omega)
  have e : itoa (n : Int) = decDigits n := by
    unfold itoa
    rw [if_neg (by omega)]
    rfl
  rw [e] at this
  exact this
theorem sv_byte (n : Nat) : ∀ x ∈ sv n, x < 256 := by
  have hi : ∀ n, ∀ x ∈ svHi n, x < 256 := by
    intro n
    induction n using Nat.strongRecOn with
    | ind n ih =>
      intro x hx
      rw [svHi] at hx
      split at hx
      · rw [List.mem_singleton] at hx
        omega
      · rcases List.mem_append.1 hx with hx | hx
        · exact ih (n / 128) (by omega) x hx
        · rw [List.mem_singleton] at hx
          omega
  intro x hx
  unfold sv at hx
  split at hx
  · rw [List.mem_singleton] at hx
    omega
  · rcases List.mem_append.1 hx with hx | hx
    · exact hi _ x hx
    · rw [List.mem_singleton] at hx
      omega
theorem putA_byte (L : List Nat) : ∀ x ∈ putA L, x < 256 := by
  intro x hx
  obtain ⟨n, _, hx⟩ := List.mem_flatMap.1 hx
  exact sv_byte n x hx
/-- What Read answers. -/
def ReadS (l : List Nat) (e : Ending) : Prop :=
  match rdX l with
  | none => e = .returned (.tuple #[.string ⟨#[]⟩, .int .i64 11])
  | some M => e = .returned (.tuple #[.string (baO (txA M)), .int .i64 0])
theorem ReadS.no {l : List Nat} (h : rdX l = none) : ReadS l (.returned (.tuple #[.string ⟨#[]⟩, .int .i64 11])) := by
  unfold ReadS
  rw [h]
theorem ReadS.yes {l : List Nat} {M : List Nat} {s : ByteArray} (h : rdX l = some M) (hs : s = baO (txA M)) : ReadS l (.returned (.tuple #[.string s, .int .i64 0])) := by
  unfold ReadS
  rw [h, hs]
theorem rdX_no {l : List Nat} (h : rdL [] 0 l = none) : rdX l = none := by
  rcases e : rdX l with _ | M
  · rfl
  · rw [rdX_rdL e] at h
    cases h
theorem rdX_bad {l : List Nat} {s : List UInt8} (h : rdL [] 0 l = some s) (hs : arcsO s = none) : rdX l = none := by
  rcases e : rdX l with _ | M
  · rfl
  · rw [rdX_rdL e] at h
    injection h with h
    rw [← h, arcs_valid (rdX_some e).1] at hs
    cases hs
theorem rdX_ne {l : List Nat} {s : List UInt8} {L : List Nat} (h : rdL [] 0 l = some s) (hs : arcsO s = some L) (hne : putA L ≠ l) : rdX l = none := by
  rcases e : rdX l with _ | M
  · rfl
  · rw [rdX_rdL e] at h
    injection h with h
    rw [← h, arcs_valid (rdX_some e).1] at hs
    injection hs with hs
    exact absurd (hs ▸ (rdX_some e).2) hne
theorem rdX_eq {l : List Nat} {s : List UInt8} {L : List Nat} (hs : arcsO s = some L) (he : putA L = l) : rdX l = some L ∧ baO s = baO (txA L) := by
  rw [← he, (arcsO_some hs).1]
  exact ⟨rdX_put (valid_arcs hs), rfl⟩
theorem drop_get (l : List Nat) (i : Nat) (h : i < l.length) : l.drop i = l[i] :: l.drop (i + 1) := List.drop_eq_getElem_cons h
theorem pushT_nil (m : Nat) : pushT [] m = decDigits (min (m / 40) 2) ++ 46 :: decDigits (m - 40 * min (m / 40) 2) := if_pos rfl
theorem pushT_cons (s : List UInt8) (m : Nat) (h : s ≠ []) : pushT s m = s ++ 46 :: decDigits m := if_neg h
set_option maxRecDepth 8000 in
set_option maxHeartbeats 2000000 in
theorem refRead7_any (A : Option Addr) (cp : Nat) (l : List Nat) (X : Nat) (w : World) (hX : l.length = X) (hX300 : X ≤ 300) (hs : Src w w.heap.size A cp l) (hb : ∀ x ∈ l, x < 256) :
    Calls Tryd.prog 11 #[.slice A X cp] w fun e w' => ReadS l e ∧ Below w.heap.size w w' := by
  obtain ⟨R, hR⟩ : ∃ R, R = rdL [] 0 l := ⟨_, rfl⟩
  have HS := Lib.hid hs
  have HX := Lib.hid hX
  have HBy := Lib.hid hb
  have HR := Lib.hid hR
  clear hs hX hb
  go_enter Tryd.func11, Tryd.ntmps11
  go_wp2_with fail
  go_loop [4, 5, 6] (fun sv0 nv iv => ∃ (i n : Nat) (s : List UInt8), i ≤ X ∧ n ≤ 12800000000127 ∧ s.length ≤ 240 ∧ iv = .int .i64 (i : Int) ∧ nv = .int .i64 (n : Int) ∧ sv0 = .string (baO s) ∧ Hid (rdL s n (l.drop i) = R)) (fun _ _ iv => X - (intOf iv).toNat)
  case atStart => exact ⟨0, 0, [], Nat.zero_le _, by omega, by simp, rfl, rfl, rfl, Lib.hid (by rw [List.drop_zero, HR.out])⟩
  case round =>
    obtain ⟨i, n, s, hi, hn, hsl, rfl, rfl, rfl, H⟩ := hrel
    have hbs := baO_size s
    obtain ⟨S, hS⟩ : ∃ S, S = baO s := ⟨_, rfl⟩
    rw [← hS] at hbs ⊢
    have b1 : S.size ≤ 240 := by omega
    by_cases hgo : i < X ∧ s.length < 200
    · obtain ⟨hlt, h200⟩ := hgo
      have i1 : (i : Int) < (X : Int) := by omega
      have i1' : decide ((i : Int) < (X : Int)) = true := decide_eq_true i1
      have i1'' : decide (i < X) = true := decide_eq_true hlt
      have i0 : (0 : Int) ≤ (i : Int) := by omega
      have i2 : (S.size : Int) < 200 := by omega
      have i3 : decide ((S.size : Int) < 200) = true := decide_eq_true i2
      have hl : i < l.length := by rw [HX.out]; exact hlt
      have hd := drop_get l i hl
      obtain ⟨x, hx⟩ : ∃ x, l[i] = x := ⟨_, rfl⟩
      have hxb : x < 256 := by rw [← hx]; exact HBy.out _ (List.getElem_mem hl)
      have hlx : l[i]? = some x := by rw [List.getElem?_eq_getElem hl, hx]
      rw [hx] at hd
      by_cases hbig : 100000000000 < n
      · have k1 : (100000000000 : Int) < (n : Int) := by omega
        have hfin : rdX l = none := rdX_no (by rw [← HR.out, ← H.out, hd, rdL_big _ _ _ _ h200 hbig])
        replace hfin := Lib.hid hfin
        replace hd := Lib.hid hd
        replace hbs := Lib.hid hbs
        replace hx := Lib.hid hx
        replace hS := Lib.hid hS
        replace hlx := Lib.hid hlx
        go_wp2_with fail
        go_returns
        exact ⟨ReadS.no hfin.out, Below.refl _ _⟩
      · have k1 : ¬ ((100000000000 : Int) < (n : Int)) := by omega
        have hst := H.out
        rw [hd, rdL_cons _ _ _ _ h200 (by omega)] at hst
        obtain ⟨m, hm⟩ : ∃ m, m = n * 128 + x % 128 := ⟨_, rfl⟩
        rw [← hm] at hst
        have hmb : m ≤ 12800000000127 := by omega
        have hmi : (n : Int) * 128 + (x : Int) % 128 = (m : Int) := by omega
        have hmi2 : (n : Int) * 128 + (x : Int).tmod 128 = (m : Int) := by rw [Int.tmod_eq_emod_of_nonneg (by omega)]; exact hmi
        obtain ⟨ad, had, hcell⟩ : ∃ ad, A = some ad ∧ w.cell? (ad.add i) = some (.int .u8 (x : Int)) := by
          rcases A with _ | ad
          · have h1 := HS.out.le
            have h2 := HS.out.nil rfl
            rw [HX.out] at h1
            omega
          · exact ⟨ad, rfl, (HS.out.at_ ad rfl).2 i x hlx⟩
        subst had
        replace hd := Lib.hid hd
        replace hbs := Lib.hid hbs
        replace hx := Lib.hid hx
        replace hlx := Lib.hid hlx
        replace hm := Lib.hid hm
        by_cases h127 : 127 < x
        · have k2 : (127 : Int) < (x : Int) := by omega
          rw [if_pos h127] at hst
          replace hst := Lib.hid hst
          replace hS := Lib.hid hS
          go_wp2_with fail
          go_round
          case rel => exact ⟨i + 1, m, s, by omega, hmb, hsl, by go_num, rfl, by rw [hS.out], hst⟩
          case measure => simp [intOf]; omega
        · have k2 : ¬ ((127 : Int) < (x : Int)) := by omega
          rw [if_neg h127] at hst
          by_cases hs0 : s = []
          · subst hs0
            rw [pushT_nil] at hst
            have hSe : S = ⟨#[]⟩ := hS
            subst hSe
            replace hS := Lib.hid hS
            obtain ⟨q0, hq0⟩ : ∃ q0, q0 = m / 40 := ⟨_, rfl⟩
            obtain ⟨q, hq⟩ : ∃ q, q = min (m / 40) 2 := ⟨_, rfl⟩
            rw [← hq] at hst
            obtain ⟨z, hz⟩ : ∃ z, z = m - 40 * q := ⟨_, rfl⟩
            rw [← hz] at hst
            have C1 := fun W => refDig_any q W (by omega)
            have C2 := fun W => refDig_any z W (by omega)
            have l1 := dec_len15 q (by omega)
            have l2 := dec_len15 z (by omega)
            obtain ⟨D1, hD1⟩ : ∃ D1, D1 = decDigits q := ⟨_, rfl⟩
            obtain ⟨D2, hD2⟩ : ∃ D2, D2 = decDigits z := ⟨_, rfl⟩
            rw [← hD1] at C1 l1 hst
            rw [← hD2] at C2 l2 hst
            obtain ⟨y1, hy1⟩ : ∃ y1, baO D1 ++ ⟨#[46]⟩ = y1 := ⟨_, rfl⟩
            obtain ⟨y2, hy2⟩ : ∃ y2, y1 ++ baO D2 = y2 := ⟨_, rfl⟩
            have e2 : y2 = baO (D1 ++ 46 :: D2) := by
              rw [← hy2, ← hy1]
              show (baO D1 ++ baO [46]) ++ baO D2 = _
              rw [baO_app, baO_app]
              simp
            have z1 : (baO D1).size ≤ 15 := by rw [baO_size]; exact l1
            have z2 : (baO D2).size ≤ 15 := by rw [baO_size]; exact l2
            have z3 : y1.size ≤ 16 := by rw [← hy1, ByteArray.size_append]; exact Nat.add_le_add z1 (Nat.le_refl 1)
            have z4 : y2.size ≤ 31 := by rw [← hy2, ByteArray.size_append]; omega
            replace C1 := Lib.hid C1
            replace C2 := Lib.hid C2
            replace hst := Lib.hid hst
            have e2' := Lib.hid e2
            clear e2
            replace hD1 := Lib.hid hD1
            replace hD2 := Lib.hid hD2
            have m1 : (m : Int) / 40 = (q0 : Int) := by omega
            have m2 : (m : Int).tdiv 40 = (q0 : Int) := by rw [Int.tdiv_eq_ediv_of_nonneg (by omega)]; exact m1
            have m3 : (q0 : Int) ≤ 1000000000000 := by omega
            by_cases hq2 : 2 < q0
            · have hqe : q = 2 := by omega
              subst hqe
              have n1 : (2 : Int) < (q0 : Int) := by omega
              replace hq0 := Lib.hid hq0
              have n3 : (m : Int) - 80 = (z : Int) := by omega
              replace hq := Lib.hid hq
              replace hz := Lib.hid hz
              go_wp2_with fail
              refine (C1.out _).mono ?_
              rintro _ w2 ⟨rfl, h2⟩
              subst w2
              dsimp only []
              go_wp2_with fail
              refine (C2.out _).mono ?_
              rintro _ w2 ⟨rfl, h2⟩
              subst w2
              dsimp only []
              go_wp2_with fail
              go_round
              case rel => exact ⟨i + 1, 0, D1 ++ 46 :: D2, by omega, by omega, by simp; omega, by go_num, rfl, by rw [e2'.out], hst⟩
              case measure => simp [intOf]; omega
            · have hqe : q = q0 := by omega
              subst hqe
              have n1 : ¬ ((2 : Int) < (q : Int)) := by omega
              have n3 : (m : Int) - 40 * (q : Int) = (z : Int) := by omega
              replace hq0 := Lib.hid hq0
              replace hq := Lib.hid hq
              replace hz := Lib.hid hz
              go_wp2_with fail
              refine (C1.out _).mono ?_
              rintro _ w2 ⟨rfl, h2⟩
              subst w2
              dsimp only []
              go_wp2_with fail
              refine (C2.out _).mono ?_
              rintro _ w2 ⟨rfl, h2⟩
              subst w2
              dsimp only []
              go_wp2_with fail
              go_round
              case rel => exact ⟨i + 1, 0, D1 ++ 46 :: D2, by omega, by omega, by simp; omega, by go_num, rfl, by rw [e2'.out], hst⟩
              case measure => simp [intOf]; omega
          · rw [pushT_cons _ _ hs0] at hst
            have C2 := fun W => refDig_any m W (by omega)
            have l2 := dec_len15 m (by omega)
            obtain ⟨D2, hD2⟩ : ∃ D2, D2 = decDigits m := ⟨_, rfl⟩
            rw [← hD2] at C2 l2 hst
            obtain ⟨y1, hy1⟩ : ∃ y1, S ++ ⟨#[46]⟩ = y1 := ⟨_, rfl⟩
            obtain ⟨y2, hy2⟩ : ∃ y2, y1 ++ baO D2 = y2 := ⟨_, rfl⟩
            have e2 : y2 = baO (s ++ 46 :: D2) := by
              rw [← hy2, ← hy1, hS]
              show (baO s ++ baO [46]) ++ baO D2 = _
              rw [baO_app, baO_app]
              simp
            have z2 : (baO D2).size ≤ 15 := by rw [baO_size]; exact l2
            have z3 : y1.size ≤ 241 := by rw [← hy1, ByteArray.size_append]; exact Nat.add_le_add b1 (Nat.le_refl 1)
            have z4 : y2.size ≤ 256 := by rw [← hy2, ByteArray.size_append]; omega
            have hne : S.toList.isEmpty = false := by
              rw [hS, ByteArray.toList_eq, baO_list]
              rcases s with _ | ⟨c, t⟩
              · exact absurd rfl hs0
              · rfl
            have hne2 : ¬ (S.toList = []) := by
              intro e
              rw [e] at hne
              cases hne
            replace C2 := Lib.hid C2
            replace hst := Lib.hid hst
            have e2' := Lib.hid e2
            clear e2
            replace hD2 := Lib.hid hD2
            replace hS := Lib.hid hS
            replace hs0 := Lib.hid hs0
            go_wp2_with fail
            refine (C2.out _).mono ?_
            rintro _ w2 ⟨rfl, h2⟩
            subst w2
            dsimp only []
            go_wp2_with fail
            go_round
            case rel => exact ⟨i + 1, 0, s ++ 46 :: D2, by omega, by omega, by simp; omega, by go_num, rfl, by rw [e2'.out], hst⟩
            case measure => simp [intOf]; omega
    · have hRs : R = some s := by
        rw [← H.out]
        by_cases hlt : i < X
        · exact rdL_long _ _ _ (by omega)
        · rw [List.drop_of_length_le (by rw [HX.out]; omega), rdL]
      have hLs : rdL [] 0 l = some s := by rw [← HR.out, hRs]
      have CP := refPut7_any S w (by omega)
      rw [hS, baO_list] at CP
      rw [← hS] at CP
      have i0 : (0 : Int) ≤ (i : Int) := by omega
      have hcl : Hid ((convert 22 9 (.slice A X cp)).run Tryd.prog w = .ok (.string (strB l)) w) := Lib.hid (by have := HS.out.conv; rwa [HX.out] at this)
      have hloop : (¬ i < X) ∨ (i < X ∧ ¬ S.size < 200) := by omega
      replace hRs := Lib.hid hRs
      replace hbs := Lib.hid hbs
      rcases hA : arcsO s with _ | L
      · have CP' : Hid (Calls Tryd.prog 9 #[.string S] w fun e w' => e = .returned (.tuple #[.slice none 0 0, .int .i64 2]) ∧ Below w.heap.size w w') := Lib.hid (CP.mono fun e w' ⟨h1, h2⟩ => ⟨by unfold PutS at h1; rw [hA] at h1; exact h1, h2⟩)
        have hfin := Lib.hid (rdX_bad hLs hA)
        replace hA := Lib.hid hA
        replace hLs := Lib.hid hLs
        replace hS := Lib.hid hS
        clear CP
        rcases hloop with ho | ⟨ho, h2⟩
        · have j1 : ¬ ((i : Int) < (X : Int)) := by omega
          have j2 : decide ((i : Int) < (X : Int)) = false := decide_eq_false j1
          have j3 : decide (i < X) = false := decide_eq_false ho
          go_wp2_with fail
          refine CP'.out.mono ?_
          rintro _ w2 ⟨rfl, hb2⟩
          dsimp only []
          go_wp2_with fail
          go_returns
          exact ⟨ReadS.no hfin.out, hb2⟩
        · have j1 : (i : Int) < (X : Int) := by omega
          have j2 : decide ((i : Int) < (X : Int)) = true := decide_eq_true j1
          have j3 : decide (i < X) = true := decide_eq_true ho
          have j4 : ¬ ((S.size : Int) < 200) := by omega
          have j5 : decide ((S.size : Int) < 200) = false := decide_eq_false j4
          go_wp2_with fail
          refine CP'.out.mono ?_
          rintro _ w2 ⟨rfl, hb2⟩
          dsimp only []
          go_wp2_with fail
          go_returns
          exact ⟨ReadS.no hfin.out, hb2⟩
      · obtain ⟨P, hP⟩ : ∃ P, P = putA L := ⟨_, rfl⟩
        have CP' : Hid (Calls Tryd.prog 9 #[.string S] w fun e w' => ∃ A' c', e = .returned (.tuple #[.slice A' P.length c', .int .i64 0]) ∧ Own w' w.heap.size (.slice A' P.length c') P ∧ Below w.heap.size w w') := Lib.hid (CP.mono fun e w' ⟨h1, h2⟩ => by
          unfold PutS at h1
          rw [hA] at h1
          obtain ⟨A', c', h3, h4⟩ := h1
          rw [hP]
          exact ⟨A', c', h3, h4, h2⟩)
        have hPb : ∀ x ∈ P, x < 256 := by rw [hP]; exact putA_byte L
        have hcmp := strB_beq hPb HBy.out
        clear CP
        have hres : (P = l ∧ rdX l = some L ∧ S = baO (txA L)) ∨ (P ≠ l ∧ rdX l = none) := by
          by_cases he : P = l
          · have := rdX_eq (l := l) hA (by rw [← hP, he])
            exact .inl ⟨he, this.1, by rw [hS]; exact this.2⟩
          · exact .inr ⟨he, rdX_ne hLs hA (by rw [← hP]; exact he)⟩
        have hq : ∃ q : Bool, (strB P == strB l) = q ∧ (q = true ∧ rdX l = some L ∧ S = baO (txA L) ∨ q = false ∧ rdX l = none) := by
          rcases hres with ⟨h1, h2, h3⟩ | ⟨h1, h2⟩
          · exact ⟨true, hcmp.2 h1, .inl ⟨rfl, h2, h3⟩⟩
          · refine ⟨false, ?_, .inr ⟨rfl, h2⟩⟩
            rw [Bool.eq_false_iff]
            exact fun e => h1 (hcmp.1 e)
        obtain ⟨q, hq1, hq2⟩ := hq
        have hq3 : ((strB P).toList == (strB l).toList) = q := by rw [← hq1, beq_toListBytes]
        have hq4 : ((strB P).toList != (strB l).toList) = !q := by rw [bne, hq3]
        clear hres hcmp hPb
        replace hA := Lib.hid hA
        replace hLs := Lib.hid hLs
        replace hS := Lib.hid hS
        replace hP := Lib.hid hP
        rcases hq2 with ⟨rfl, hX1, hX2⟩ | ⟨rfl, hX1⟩
        · replace hX1 := Lib.hid hX1
          replace hX2 := Lib.hid hX2
          rcases hloop with ho | ⟨ho, h2⟩
          · have j1 : ¬ ((i : Int) < (X : Int)) := by omega
            have j2 : decide ((i : Int) < (X : Int)) = false := decide_eq_false j1
            have j3 : decide (i < X) = false := decide_eq_false ho
            go_wp2_with fail
            refine CP'.out.mono ?_
            rintro _ w2 ⟨A', c', rfl, ho2, hb2⟩
            have cv1 := ho2.src.conv
            have cv2 : (convert 22 9 (.slice A X cp)).run Tryd.prog w2 = .ok (.string (strB l)) w2 := by have := (HS.out.below hb2).conv; rwa [HX.out] at this
            replace ho2 := Lib.hid ho2
            dsimp only []
            go_wp2_with fail
            go_returns
            exact ⟨ReadS.yes hX1.out hX2.out, hb2⟩
          · have j1 : (i : Int) < (X : Int) := by omega
            have j2 : decide ((i : Int) < (X : Int)) = true := decide_eq_true j1
            have j3 : decide (i < X) = true := decide_eq_true ho
            have j4 : ¬ ((S.size : Int) < 200) := by omega
            have j5 : decide ((S.size : Int) < 200) = false := decide_eq_false j4
            go_wp2_with fail
            refine CP'.out.mono ?_
            rintro _ w2 ⟨A', c', rfl, ho2, hb2⟩
            have cv1 := ho2.src.conv
            have cv2 : (convert 22 9 (.slice A X cp)).run Tryd.prog w2 = .ok (.string (strB l)) w2 := by have := (HS.out.below hb2).conv; rwa [HX.out] at this
            replace ho2 := Lib.hid ho2
            dsimp only []
            go_wp2_with fail
            go_returns
            exact ⟨ReadS.yes hX1.out hX2.out, hb2⟩
        · replace hX1 := Lib.hid hX1
          rcases hloop with ho | ⟨ho, h2⟩
          · have j1 : ¬ ((i : Int) < (X : Int)) := by omega
            have j2 : decide ((i : Int) < (X : Int)) = false := decide_eq_false j1
            have j3 : decide (i < X) = false := decide_eq_false ho
            go_wp2_with fail
            refine CP'.out.mono ?_
            rintro _ w2 ⟨A', c', rfl, ho2, hb2⟩
            have cv1 := ho2.src.conv
            have cv2 : (convert 22 9 (.slice A X cp)).run Tryd.prog w2 = .ok (.string (strB l)) w2 := by have := (HS.out.below hb2).conv; rwa [HX.out] at this
            replace ho2 := Lib.hid ho2
            dsimp only []
            go_wp2_with fail
            go_returns
            exact ⟨ReadS.no hX1.out, hb2⟩
          · have j1 : (i : Int) < (X : Int) := by omega
            have j2 : decide ((i : Int) < (X : Int)) = true := decide_eq_true j1
            have j3 : decide (i < X) = true := decide_eq_true ho
            have j4 : ¬ ((S.size : Int) < 200) := by omega
            have j5 : decide ((S.size : Int) < 200) = false := decide_eq_false j4
            go_wp2_with fail
            refine CP'.out.mono ?_
            rintro _ w2 ⟨A', c', rfl, ho2, hb2⟩
            have cv1 := ho2.src.conv
            have cv2 : (convert 22 9 (.slice A X cp)).run Tryd.prog w2 = .ok (.string (strB l)) w2 := by have := (HS.out.below hb2).conv; rwa [HX.out] at this
            replace ho2 := Lib.hid ho2
            dsimp only []
            go_wp2_with fail
            go_returns
            exact ⟨ReadS.no hX1.out, hb2⟩
end Go.Proofs.YtpmcdkalmdlahaaDoor
