/-
  bytes.Clone of bytes.
-/
import Derived.Test.YtklpjdcmppohkaaDoorFRead
namespace Go.Proofs.YtklpjdcmppohkaaDoor
open Go.RowKit

theorem below_lit {w w1 : World} {o : Obj} (h : Below w.heap.size (w.alloc o) w1) : Below w.heap.size w w1 := ((Below.refl w.heap.size w).alloc (Nat.le_refl _) o).trans h
set_option maxRecDepth 4000 in
theorem clone_any (ad : Addr) (cp : Nat) (l : List Nat) (n : Nat) (hn : l.length = n) (w : World) (hs : Src w w.heap.size (some ad) cp l) (hl : n ≤ 1048600) :
    Calls Tryd.prog 20 #[.slice (some ad) n cp] w fun e w' => ∃ A' c', e = .returned (.slice A' n c') ∧ Own w' w.heap.size (.slice A' n c') l ∧ Below w.heap.size w w' := by
  have h0 : ∀ w, Sem.run Tryd.prog (binOp .eql 23 (.slice (some ad) n cp) (.slice none 0 0)) w = .ok (.bool false) w := fun _ => by kernel_rfl
  go_enter Tryd.func20, Tryd.ntmps20
  go_wp2_with (at_builtin; refine append_srcN rfl (.tmp 5) (.tmp 6) rfl w.heap.size _ [] rfl (Own.lit w) w.heap.size (some ad) cp l n hn rfl (hs.keep (fun p hp => World.cell?_alloc_lt _ _ _ hp)) (by simp; omega) (by simp) ?_; intro A1 c1 w1 ho1 hb1; have HO1 := Lib.hid ho1; have HB1 := Lib.hid hb1; clear ho1 hb1)
  go_ret
  have ho := HO1.out
  rw [List.nil_append, hn] at ho
  refine ⟨A1, c1, rfl, ho, below_lit HB1.out⟩
end Go.Proofs.YtklpjdcmppohkaaDoor
