/-
  The law package's own example: a text is parsed.
-/
import Derived.Test.YtfmdghajdieemaaGreatDoorFltHyp
namespace Go.Proofs.YtfmdghajdieemaaGreatDoor
open Go.RowKit

def exSn : Ft := ⟨4, .nil, [115, 110], [], [98], [], []⟩
def exNot : Ft := ⟨2, Gl.of [exSn], [], [], [], [], []⟩
def exCn : Ft := ⟨3, .nil, [99, 110], [97], [], [], []⟩
def exF : Ft := ⟨0, Gl.of [exCn, exNot], [], [], [], [], []⟩
theorem ex_text : exF.text = [40, 38, 40, 99, 110, 61, 97, 41, 40, 33, 40, 115, 110, 61, 98, 42, 41, 41, 41] := by decide +kernel
theorem ex_right : exF.right = true := by decide +kernel
theorem ex_all : exF.all = true := (right_parts14 ex_right).2.2
theorem ex_str : (⟨#[40, 38, 40, 99, 110, 61, 97, 41, 40, 33, 40, 115, 110, 61, 98, 42, 41, 41, 41]⟩ : ByteArray) = strB exF.text := by
  rw [ex_text]
  decide +kernel

set_option maxRecDepth 8000 in
set_option maxHeartbeats 800000 in
theorem one_any (w0 W : World) (H : ParseH w0) (hW : Below w0.heap.size w0 W) :
    Calls Tryz.prog 7 #[] W fun en w' => en = .returned (.bool true) ∧ Below W.heap.size W w' := by
  have C := Lib.hid (H.parse exF _ W hW ex_all (by decide +kernel) ex_str)
  go_enter Tryz.func7, Tryz.ntmps7
  go_wp2_with fail
  refine C.out.mono ?_
  rintro en w1 ⟨g, Ak, ck, Ab, cb, e, rfl, hin, hb, _, h1, _⟩
  obtain ⟨rfl, rfl⟩ := h1 (by rw [ex_text]; decide) ex_right
  clear C
  obtain ⟨bl, off, rfl, hbl, hkid⟩ := hin.kid (by decide)
  obtain ⟨Ak2, ck2, Ab2, cb2, hat, hkin⟩ := hkid 1 (by decide)
  have hat' : FtAt w1 exNot bl (off + 7) Ak2 ck2 Ab2 cb2 := hat
  have hkin' : FtIn w1 (· < w1.heap.size) exNot Ak2 ck2 Ab2 cb2 := hkin
  obtain ⟨bl2, off2, rfl, hbl2, hkid2⟩ := hkin'.kid (by decide)
  obtain ⟨Ak3, ck3, Ab3, cb3, hat3, _⟩ := hkid2 0 (by decide)
  have hat3' : FtAt w1 exSn bl2 (off2 + 0 * 7) Ak3 ck3 Ab3 cb3 := hat3
  rw [show off2 + 0 * 7 = off2 from by omega] at hat3'
  have c1 := hat'.g
  have c2 := hat3'.a
  have kl : exF.kids.length = 2 := by decide
  have kl2 : exNot.kids.length = 1 := by decide
  have hle := hin.g.le
  have hle2 := hkin'.g.le
  have kl3 : exF.g.list.length = 2 := by decide
  have kl4 : exNot.g.list.length = 1 := by decide
  rw [kl2] at c1
  rw [kl3] at hle
  rw [kl4] at hle2
  have d1 : ∀ o : Obj, (w1.alloc o).cell? ⟨bl, off + 7 + 1, none⟩ = some (.slice (some ⟨bl2, off2, none⟩) 1 ck2) := fun o => (World.cell?_alloc_lt _ _ _ hbl).trans c1
  have d2 : ∀ o : Obj, (w1.alloc o).cell? ⟨bl2, off2 + 4, none⟩ = some (.string ⟨#[98]⟩) := fun o => (World.cell?_alloc_lt _ _ _ hbl2).trans c2
  have hv : ftV exF (some ⟨bl, off, none⟩) ck Ab cb = .agg #[.int .i64 0, .slice (some ⟨bl, off, none⟩) 2 ck, .string ⟨#[]⟩, .string ⟨#[]⟩, .string ⟨#[]⟩, .string ⟨#[]⟩, .slice Ab 0 cb] := by
    unfold ftV
    rw [kl]
    rfl
  rw [hv]
  replace hin := Lib.hid hin
  replace hkin := Lib.hid hkin
  replace hkin' := Lib.hid hkin'
  clear hat hat' hat3 hat3' hkid hkid2 c1 c2 hv kl kl2 kl3 kl4
  replace hb := Lib.hid hb
  dsimp only []
  go_wp2_with fail
  go_ret
  exact ⟨rfl, hb.out.alloc hb.out.size _⟩
end Go.Proofs.YtfmdghajdieemaaGreatDoor
