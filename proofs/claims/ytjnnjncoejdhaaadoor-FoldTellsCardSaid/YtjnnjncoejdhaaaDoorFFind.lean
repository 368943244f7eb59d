/-
  The program's Find of any texts.
-/
import Derived.Test.YtjnnjncoejdhaaaDoorFDat
import Derived.Test.YtjnnjncoejdhaaaDoorShelf
import Derived.Lib.IndexLaws
namespace Go.Proofs.YtjnnjncoejdhaaaDoor
open Go.RowKit

theorem toNats_inj : ∀ {a b : List UInt8}, a.map UInt8.toNat = b.map UInt8.toNat → a = b
  | [], [], _ => rfl
  | [], _ :: _, h => by cases h
  | _ :: _, [], h => by cases h
  | x :: a, y :: b, h => by
    rw [List.map_cons, List.map_cons] at h
    injection h with h1 h2
    rw [toNats_inj h2, UInt8.toNat_inj.1 h1]
theorem occ_iff (s t x : ByteArray) (n j : Nat) (hx : s.extract n s.size = x) : Lib.occAt x.data.toList t.data.toList j = true ↔ stands (bs s) (bs t) (n + j) := by
  have hb := bs_rest s x n hx
  unfold Lib.occAt stands
  rw [List.isPrefixOf_iff_prefix, List.prefix_iff_eq_take, ← List.drop_drop, ← hb]
  constructor
  · intro h
    have := congrArg (List.map UInt8.toNat) h
    rw [List.map_take, List.map_drop] at this
    unfold bs
    rw [List.length_map]
    exact this.symm
  · intro h
    refine toNats_inj ?_
    rw [List.map_take, List.map_drop]
    unfold bs at h
    rw [List.length_map] at h
    exact h.symm
theorem stands_len {s t : List Nat} {j : Nat} (hj : j ≤ s.length) (h : stands s t j) : j + t.length ≤ s.length := by
  unfold stands at h
  have := congrArg List.length h
  rw [List.length_take, List.length_drop] at this
  omega
theorem index_find (s t x : ByteArray) (n : Nat) (hn : n ≤ s.size) (hx : s.extract n s.size = x) :
    (Lib.index x.data.toList t.data.toList = -1 ∧ uFind (bs s) (bs t) n = -1) ∨ ∃ k : Nat, Lib.index x.data.toList t.data.toList = (k : Int) ∧ n + k ≤ s.size ∧ uFind (bs s) (bs t) n = ((n + k : Nat) : Int) := by
  have hsz : x.data.toList.length = s.size - n := by
    have := congrArg List.length (bs_rest s x n hx)
    rw [List.length_drop, bs_len, bs_len] at this
    simpa using this
  have hl := bs_len s
  rcases uFind_spec (bs s) (bs t) n with ⟨h1, h2⟩ | ⟨j, h1, h2, h3, h4, h5⟩
  · refine .inl ⟨Lib.index_none fun k hk => ?_, h1⟩
    by_cases h : Lib.occAt x.data.toList t.data.toList k = true
    · have h' := (occ_iff s t x n k hx).1 h
      exact absurd h' (h2 (n + k) (by omega) (stands_len (by omega) h'))
    · simpa using h
  · refine .inr ⟨j - n, Lib.index_first (by omega) ((occ_iff s t x n (j - n) hx).2 ?_) (fun k hk => ?_), by omega, ?_⟩
    · rwa [show n + (j - n) = j from by omega]
    · by_cases h : Lib.occAt x.data.toList t.data.toList k = true
      · exact absurd ((occ_iff s t x n k hx).1 h) (h5 (n + k) (by omega) (by omega))
      · simpa using h
    · rw [h1, show n + (j - n) = j from by omega]

set_option maxRecDepth 8000 in
set_option maxHeartbeats 800000 in
theorem find_at (s t : ByteArray) (z : Int) (n : Nat) (hz : z.toNat = n) (hzz : (z < 0 ∧ n = 0) ∨ z = (n : Int)) (w : World) (m : Int) (hs : s.size ≤ 100000) (h1 : -9223372036854775808 ≤ z) (h2 : z ≤ 9223372036854775807)
    (hm : w.cell? ⟨2, 0, none⟩ = some (.int .i64 m)) :
    Calls Tryd.prog 19 #[.string s, .string t, .int .i64 z] w fun e w' => e = .returned (.int .i64 (uFind (bs s) (bs t) z.toNat)) ∧ w' = w := by
  rw [hz]
  by_cases hn : n ≤ s.size
  · obtain ⟨x, hx⟩ : ∃ x, s.extract n s.size = x := ⟨_, rfl⟩
    have hxs : x.size ≤ 100000 := by
      have := congrArg List.length (bs_rest s x n hx)
      rw [List.length_drop, bs_len, bs_len] at this
      omega
    have C := Tryd.strings_Index x t m w (by omega) hm
    obtain ⟨r, hr⟩ : ∃ r, r = Lib.index x.data.toList t.data.toList := ⟨_, rfl⟩
    obtain ⟨q, hq⟩ : ∃ q, q = uFind (bs s) (bs t) n := ⟨_, rfl⟩
    have hI := index_find s t x n hn hx
    rw [← hr] at C
    rw [← hr, ← hq] at hI
    rw [← hq]
    replace C := Lib.hid C
    replace hr := Lib.hid hr
    replace hq := Lib.hid hq
    replace hm := Lib.hid hm
    rcases hzz with ⟨z0, n0⟩ | z0
    · subst n0
      have i1 : ¬ ((s.size : Int) < 0) := by omega
      have i2 : (0 : Int) ≤ (s.size : Int) := by omega
      have hmx : max z 0 = 0 := by omega
      replace hz := Lib.hid hz
      rcases hI with ⟨a1, a2⟩ | ⟨k, a1, a2, a3⟩
      · subst a1 a2
        go_enter Tryd.func19, Tryd.ntmps19
        go_wp2_with fail
        refine C.out.mono ?_
        rintro _ w2 ⟨rfl, h3⟩
        subst w2
        go_wp2_with fail
        go_ret
        exact ⟨rfl, rfl⟩
      · subst a1 a3
        have k0 : ¬ ((k : Int) < 0) := by omega
        go_enter Tryd.func19, Tryd.ntmps19
        go_wp2_with fail
        refine C.out.mono ?_
        rintro _ w2 ⟨rfl, h3⟩
        subst w2
        go_wp2_with fail
        go_ret
        exact ⟨by rw [Nat.zero_add]; rfl, rfl⟩
    · subst z0
      have i0 : ¬ ((n : Int) < 0) := by omega
      have i1 : ¬ ((s.size : Int) < (n : Int)) := by omega
      have i2 : (n : Int) ≤ (s.size : Int) := by omega
      have i3 : (0 : Int) ≤ (n : Int) := by omega
      replace hz := Lib.hid hz
      rcases hI with ⟨a1, a2⟩ | ⟨k, a1, a2, a3⟩
      · subst a1 a2
        go_enter Tryd.func19, Tryd.ntmps19
        go_wp2_with fail
        refine C.out.mono ?_
        rintro _ w2 ⟨rfl, h3⟩
        subst w2
        go_wp2_with fail
        go_ret
        exact ⟨rfl, rfl⟩
      · subst a1 a3
        have k0 : ¬ ((k : Int) < 0) := by omega
        have k1 : (0 : Int) ≤ (k : Int) := by omega
        have k2 : (k : Int) ≤ 100000 := by omega
        have k3 : (n : Int) ≤ 100000 := by omega
        go_enter Tryd.func19, Tryd.ntmps19
        go_wp2_with fail
        refine C.out.mono ?_
        rintro _ w2 ⟨rfl, h3⟩
        subst w2
        go_wp2_with fail
        go_ret
        exact ⟨by rw [Int.natCast_add]; rfl, rfl⟩
  · have hout : uFind (bs s) (bs t) n = -1 := uFind_out _ _ _ (by rw [bs_len]; omega)
    rw [hout]
    rcases hzz with ⟨z0, n0⟩ | z0
    · omega
    · subst z0
      have i0 : ¬ ((n : Int) < 0) := by omega
      have i1 : (s.size : Int) < (n : Int) := by omega
      replace hz := Lib.hid hz
      replace hout := Lib.hid hout
      replace hm := Lib.hid hm
      go_enter Tryd.func19, Tryd.ntmps19
      go_wp2_with fail
      go_ret
      exact ⟨rfl, rfl⟩
theorem find_any (s t : ByteArray) (z : Int) (w : World) (m : Int) (hs : s.size ≤ 100000) (h1 : -9223372036854775808 ≤ z) (h2 : z ≤ 9223372036854775807)
    (hm : w.cell? ⟨2, 0, none⟩ = some (.int .i64 m)) :
    Calls Tryd.prog 19 #[.string s, .string t, .int .i64 z] w fun e w' => e = .returned (.int .i64 (uFind (bs s) (bs t) z.toNat)) ∧ w' = w :=
  find_at s t z z.toNat rfl (by omega) w m hs h1 h2 hm
end Go.Proofs.YtjnnjncoejdhaaaDoor
