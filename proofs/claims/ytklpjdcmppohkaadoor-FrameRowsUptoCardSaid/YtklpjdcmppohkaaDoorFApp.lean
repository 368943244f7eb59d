/-
  append of bytes, its lengths named.
-/
import Derived.Test.YtklpjdcmppohkaaDoorFOpen
namespace Go.Proofs.YtklpjdcmppohkaaDoor
open Go.RowKit

theorem append_to {w : World} {ops : Array Oper} {rest : List Oper} {o : Oper} {a : Act} {Q : Exit → Act → World → Prop} (hgd : o.guard = none) (s x : Operand)
    (ho : o.op = .call { callee := .builtin .append, args := #[s, x], argTypes := #[23, 23] })
    (base : Nat) (v : Value) (l : List Nat) (n : Nat) (hn : l.length = n) (hs : a.eval s = v) (hown : Own w base v l) (K : Nat) (A : Option Addr) (c : Nat) (m : List Nat) (k : Nat) (hk : m.length = k) (hx : a.eval x = .slice A k c) (hsrc : Src w K A c m)
    (N : Nat) (hN : n + k = N) (hlen : N ≤ 2000000) (hbase : base ≤ w.heap.size)
    (h : ∀ A' c' w', Own w' base (.slice A' N c') (l ++ m) → Below base w w' → (∀ p : Addr, p.block < w.heap.size → some p.block ≠ v.ownBlock → w'.cell? p = w.cell? p) → wpList Tryd.prog ops Q rest (a.put o.dst (.slice A' N c')) w') : wpList Tryd.prog ops Q (o :: rest) a w := by
  subst hn hN
  exact append_srcF hgd s x ho base v l hs hown K A c m k hk hx hsrc (by omega) hbase h
/-- Four bytes that a literal makes. -/
theorem Own.four (w : World) (a b c d : Nat) : Own (w.alloc (.cells #[.int .u8 (a : Int), .int .u8 (b : Int), .int .u8 (c : Int), .int .u8 (d : Int)] 5)) w.heap.size (.slice (some ⟨w.heap.size, 0, none⟩) 4 4) [a, b, c, d] :=
  ⟨rfl, .inr ⟨w.heap.size, 4, _, rfl, Nat.le_refl _, heap_alloc_new w _, Nat.le_refl _, by simp [maxLen], rfl, rfl⟩⟩
theorem Src.four (w : World) (a b c d : Nat) : Src (w.alloc (.cells #[.int .u8 (a : Int), .int .u8 (b : Int), .int .u8 (c : Int), .int .u8 (d : Int)] 5)) (w.heap.size + 1) (some ⟨w.heap.size, 0, none⟩) 4 [a, b, c, d] := by
  have h := (Own.four w a b c d).src
  rwa [show (w.alloc (.cells #[.int .u8 (a : Int), .int .u8 (b : Int), .int .u8 (c : Int), .int .u8 (d : Int)] 5)).heap.size = w.heap.size + 1 by simp] at h
/-- An Own slice behind the making of another block. -/
theorem Own.alloc {w : World} {base : Nat} {v : Value} {l : List Nat} (h : Own w base v l) (o : Obj) : Own (w.alloc o) base v l := World.ownsRow.alloc h o
theorem Src.alloc' {w : World} {K : Nat} {A : Option Addr} {c : Nat} {l : List Nat} (h : Src w K A c l) (hK : K ≤ w.heap.size) (o : Obj) : Src (w.alloc o) K A c l := h.keep fun _ hp => World.cell?_alloc_lt _ _ _ (Nat.lt_of_lt_of_le hp hK)
theorem below_lit' {w w1 : World} {b : Nat} (hb : b ≤ w.heap.size) {o : Obj} (h : Below b (w.alloc o) w1) : Below b w w1 := ((Below.refl b w).alloc hb o).trans h
end Go.Proofs.YtklpjdcmppohkaaDoor
