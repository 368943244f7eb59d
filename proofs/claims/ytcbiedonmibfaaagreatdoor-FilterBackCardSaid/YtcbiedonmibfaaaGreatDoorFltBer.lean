/-
  The program's Put, Parse and Same of elements in memory of the call's own, as the laws of later layers want them.
-/
import Derived.Test.YtcbiedonmibfaaaGreatDoorBerPa3
import Derived.Test.YtcbiedonmibfaaaGreatDoorBerPu3
import Derived.Test.YtcbiedonmibfaaaGreatDoorFH
namespace Go.Proofs.YtcbiedonmibfaaaGreatDoor
open Go.RowKit
theorem flat_lek (h : El → List Nat) : ∀ l : List El, ∀ k ∈ l, (h k).length ≤ (l.flatMap h).length
 | [], k, hk => by cases hk
 | a :: l, k, hk => by
   rw [List.flatMap_cons, List.length_append]
   rcases List.mem_cons.1 hk with rfl | hk
   · omega
   · have := flat_lek h l k hk
     omega
theorem enc_byte (e : El) : e.right = true → e.byt → e.enc.length ≤ 9223372036854775807 → ∀ x ∈ e.enc, x < 256 := by
 induction e using El.ind with
 | h e ih =>
 intro hr hb hl x hx
 rw [El.right_kids, Bool.and_eq_true, List.all_eq_true] at hr
 obtain ⟨h1, h2⟩ := hr
 obtain ⟨h3, _, _⟩ := (one_right e).1 h1
 have he : e.enc = tagB e.c e.m e.n ++ lenB (e.inner.length : Int) ++ e.inner := rfl
 rw [he] at hx hl
 rw [List.length_append, List.length_append] at hl
 rcases List.mem_append.1 hx with hx | hx
 · rcases List.mem_append.1 hx with hx | hx
   · exact tagB_byte e.c e.n e.m h3 x hx
   · exact lenB_byte _ (by omega) x hx
 · cases hm : e.m
   · have hi : e.inner = e.b := by unfold El.inner; rw [hm]; rfl
     rw [hi] at hx
     exact hb.1 x hx
   · rw [El.inner_made e hm] at hx hl
     obtain ⟨k, hk, hxk⟩ := List.mem_flatMap.1 hx
     have := flat_lek El.enc e.kids k hk
     exact ih k hk (h2 k hk) (Fo.byt_mem hb.2 k hk) (by omega) x hxk
theorem bputH (w0 : World) : BPutH w0 := ⟨fun e A c B d W _ hin hr hd hl hs => by
 have := putp_el e W A c B d hin hs
 have hp : e.put = (e.enc, 0) := by
  unfold El.put
  rw [if_neg (by rw [hr]; decide), if_neg (by omega), if_neg (by omega)]
 rw [hp] at this
 exact this.mono fun en w' h => by
  obtain ⟨A', c', h1, h2, h3, h4⟩ := h
  exact ⟨A', c', h1, h2, h3, h4⟩⟩
theorem bparseH (w0 : World) : BParseH w0 := ⟨fun e A c W _ hs hc hr hb hd hl => by
 have := par_any A c e.enc W W.heap.size hs (Nat.le_refl _) (by omega) hc (enc_byte e hr hb (by omega))
 have hp := parP_back e hr hd hl []
 rw [List.append_nil] at hp
 rw [hp] at this
 exact this.mono fun en w' h => by
  obtain ⟨A', c', B', d', h1, h2, h3⟩ := h
  exact ⟨A', c', B', d', h1, h2.more fun b hb => hb.2.cb, h3⟩⟩
end Go.Proofs.YtcbiedonmibfaaaGreatDoor
