/-
  schema.Find, for the laws of stage 15.
-/
import Derived.Test.YtkffgdndglfcfaaGreatDoorO7B
import Derived.Lib.LaidTab
import Derived.Deep.CutRange
import Derived.Deep.RegionHeldLaw
import Derived.Deep.QuietTactic
import Derived.BigQuiet
namespace Go.Proofs.YtkffgdndglfcfaaGreatDoor.J15
open Go.RowKit Go.Proofs.YtkffgdndglfcfaaGreatDoor.O7

structure At where
  name : List UInt8
  alias : List UInt8
  oid : List UInt8
  syn : Nat
  single : Bool
deriving DecidableEq
def atts : List At := [
  ⟨[111, 98, 106, 101, 99, 116, 67, 108, 97, 115, 115], [], [50, 46, 53, 46, 52, 46, 48], 9, false⟩,
  ⟨[99, 110], [99, 111, 109, 109, 111, 110, 78, 97, 109, 101], [50, 46, 53, 46, 52, 46, 51], 1, false⟩,
  ⟨[115, 110], [115, 117, 114, 110, 97, 109, 101], [50, 46, 53, 46, 52, 46, 52], 1, false⟩,
  ⟨[115, 101, 114, 105, 97, 108, 78, 117, 109, 98, 101, 114], [], [50, 46, 53, 46, 52, 46, 53], 2, false⟩,
  ⟨[99], [99, 111, 117, 110, 116, 114, 121, 78, 97, 109, 101], [50, 46, 53, 46, 52, 46, 54], 1, true⟩,
  ⟨[111], [111, 114, 103, 97, 110, 105, 122, 97, 116, 105, 111, 110, 78, 97, 109, 101], [50, 46, 53, 46, 52, 46, 49, 48], 1, false⟩,
  ⟨[111, 117], [111, 114, 103, 97, 110, 105, 122, 97, 116, 105, 111, 110, 97, 108, 85, 110, 105, 116, 78, 97, 109, 101], [50, 46, 53, 46, 52, 46, 49, 49], 1, false⟩,
  ⟨[100, 101, 115, 99, 114, 105, 112, 116, 105, 111, 110], [], [50, 46, 53, 46, 52, 46, 49, 51], 1, false⟩,
  ⟨[116, 101, 108, 101, 112, 104, 111, 110, 101, 78, 117, 109, 98, 101, 114], [], [50, 46, 53, 46, 52, 46, 50, 48], 7, false⟩,
  ⟨[109, 101, 109, 98, 101, 114], [], [50, 46, 53, 46, 52, 46, 51, 49], 6, false⟩,
  ⟨[111, 119, 110, 101, 114], [], [50, 46, 53, 46, 52, 46, 51, 50], 6, false⟩,
  ⟨[115, 101, 101, 65, 108, 115, 111], [], [50, 46, 53, 46, 52, 46, 51, 52], 6, false⟩,
  ⟨[117, 115, 101, 114, 80, 97, 115, 115, 119, 111, 114, 100], [], [50, 46, 53, 46, 52, 46, 51, 53], 5, false⟩,
  ⟨[103, 105, 118, 101, 110, 78, 97, 109, 101], [], [50, 46, 53, 46, 52, 46, 52, 50], 1, false⟩,
  ⟨[117, 105, 100], [117, 115, 101, 114, 105, 100], [48, 46, 57, 46, 50, 51, 52, 50, 46, 49, 57, 50, 48, 48, 51, 48, 48, 46, 49, 48, 48, 46, 49, 46, 49], 1, false⟩,
  ⟨[109, 97, 105, 108], [], [48, 46, 57, 46, 50, 51, 52, 50, 46, 49, 57, 50, 48, 48, 51, 48, 48, 46, 49, 48, 48, 46, 49, 46, 51], 1, false⟩,
  ⟨[100, 99], [100, 111, 109, 97, 105, 110, 67, 111, 109, 112, 111, 110, 101, 110, 116], [48, 46, 57, 46, 50, 51, 52, 50, 46, 49, 57, 50, 48, 48, 51, 48, 48, 46, 49, 48, 48, 46, 49, 46, 50, 53], 1, true⟩,
  ⟨[101, 109, 112, 108, 111, 121, 101, 101, 78, 117, 109, 98, 101, 114], [], [50, 46, 49, 54, 46, 56, 52, 48, 46, 49, 46, 49, 49, 51, 55, 51, 48, 46, 51, 46, 49, 46, 51], 3, true⟩,
  ⟨[101, 110, 97, 98, 108, 101, 100], [], [49, 46, 51, 46, 54, 46, 49, 46, 52, 46, 49, 46, 57, 57, 57, 57, 57, 46, 49], 4, true⟩,
  ⟨[119, 101, 105, 103, 104, 116], [], [49, 46, 51, 46, 54, 46, 49, 46, 52, 46, 49, 46, 57, 57, 57, 57, 57, 46, 50], 8, true⟩]
def atB (k s : List UInt8) (a : At) : Bool := k == lowL a.name || (k == lowL a.alias && !(k == [])) || s == a.oid
def findA (s : List UInt8) : Option At := atts.find? (atB (lowL s) s)

theorem baO_toList (l : List UInt8) : (baO l).toList = l := by rw [ByteArray.toList_eq]; rfl
def set5 (w : World) (b : Nat) (u0 u1 u2 u3 u4 : Value) : World := ((((w.setCell ⟨b, 0, none⟩ u0).setCell ⟨b, 1, none⟩ u1).setCell ⟨b, 2, none⟩ u2).setCell ⟨b, 3, none⟩ u3).setCell ⟨b, 4, none⟩ u4
theorem set5_same {w : World} {b : Nat} {v0 v1 v2 v3 v4 : Value} {T : TypeId} (h : w.heap[b]? = some (.cells #[v0, v1, v2, v3, v4] T (0, 0))) (u0 u1 u2 u3 u4 : Value) : (set5 w b u0 u1 u2 u3 u4).heap[b]? = some (.cells #[u0, u1, u2, u3, u4] T (0, 0)) := by
  unfold set5
  rw [_root_.Go.heap_setCell_same _ _ _ _ _ _ (_root_.Go.heap_setCell_same _ _ _ _ _ _ (_root_.Go.heap_setCell_same _ _ _ _ _ _ (_root_.Go.heap_setCell_same _ _ _ _ _ _ (_root_.Go.heap_setCell_same _ _ _ _ _ _ h))))]
  rfl
theorem set5_below {w W : World} {B b : Nat} (h : Below B w W) (hb : B ≤ b) (u0 u1 u2 u3 u4 : Value) : Below B w (set5 W b u0 u1 u2 u3 u4) := ((((h.setCell hb u0).setCell hb u1).setCell hb u2).setCell hb u3).setCell hb u4
theorem below_drewN8 {K : Nat} {w w' : World} (h : Below K w w') : ∀ n, Below K w (w'.drewN n)
  | 0 => h
  | n + 1 => (below_drewN8 h n).drew
theorem find_at {α : Type} {p : α → Bool} : ∀ {L : List α} {k : Nat} {a : α}, L[k]? = some a → p a = true → (∀ j < k, ∀ b, L[j]? = some b → p b = false) → L.find? p = some a
  | [], k, a, h, _, _ => by simp at h
  | b :: L, 0, a, h, hp, _ => by
    simp at h
    subst h
    rw [List.find?_cons, hp]
  | b :: L, k + 1, a, h, hp, hf => by
    rw [List.find?_cons, hf 0 (by omega) b rfl]
    exact find_at (by simpa using h) hp fun j hj c hc => hf (j + 1) (by omega) c (by simpa using hc)
theorem find_no {α : Type} {p : α → Bool} {L : List α} (hf : ∀ j < L.length, ∀ b, L[j]? = some b → p b = false) : L.find? p = none := by
  rw [List.find?_eq_none]
  intro x hx
  obtain ⟨j, hj, e⟩ := List.mem_iff_getElem.1 hx
  rw [hf j hj x (by rw [List.getElem?_eq_getElem hj, e])]
  exact Bool.false_ne_true
theorem att_len : ∀ a ∈ atts, a.name.length ≤ 60 ∧ a.alias.length ≤ 60 ∧ a.oid.length ≤ 60 := by decide +kernel
def valA (o : Option At) : Value := match o with
  | some a => .tuple #[.agg #[.string (baO a.name), .string (baO a.alias), .string (baO a.oid), .int .i64 (a.syn : Int), .bool a.single], .bool true]
  | none => .tuple #[.agg #[.string ⟨#[]⟩, .string ⟨#[]⟩, .string ⟨#[]⟩, .int .i64 0, .bool false], .bool false]

/-- The table of attributes lies at g from the offset o on. -/
def AttO (w : World) (g o : Nat) : Prop := ∀ (i : Nat) (a : At), atts[i]? = some a →
  w.cell? ⟨g, o + i * 5, none⟩ = some (.string (baO a.name)) ∧ w.cell? ⟨g, o + i * 5 + 1, none⟩ = some (.string (baO a.alias)) ∧ w.cell? ⟨g, o + i * 5 + 2, none⟩ = some (.string (baO a.oid)) ∧
  w.cell? ⟨g, o + i * 5 + 3, none⟩ = some (.int .i64 (a.syn : Int)) ∧ w.cell? ⟨g, o + i * 5 + 4, none⟩ = some (.bool a.single)
theorem AttO.below {w w' : World} {K g o : Nat} (h : AttO w g o) (hg : g < K) (hb : Below K w w') : AttO w' g o := by
  intro i a ha
  have hk : ∀ j, w'.cell? ⟨g, j, none⟩ = w.cell? ⟨g, j, none⟩ := fun j => hb.cell (p := ⟨g, j, none⟩) hg
  rw [hk, hk, hk, hk, hk]
  exact h i a ha
/-- The variable holds a slice of twenty rows, which lie at g from o on. -/
def TabA (w : World) (g o : Nat) : Prop := 0 < w.heap.size ∧ g < w.heap.size ∧ w.cell? ⟨0, 0, none⟩ = some (.slice (some ⟨g, o, none⟩) 20 20) ∧ AttO w g o
theorem TabA.below {w w' : World} {g o : Nat} (h : TabA w g o) (hb : Below w.heap.size w w') : TabA w' g o :=
  ⟨Nat.lt_of_lt_of_le h.1 hb.size, Nat.lt_of_lt_of_le h.2.1 hb.size, (hb.cell (p := ⟨_, 0, none⟩) h.1).trans h.2.2.1, h.2.2.2.below h.2.1 hb⟩
def attD (a : At) : DataW Unit := .agg [.lit (.string a.name), .lit (.string a.alias), .lit (.string a.oid), .lit (.int .i64 (a.syn : Int)), .lit (.bool a.single)]
theorem cell_size {w : World} {p : Addr} {v : Value} (h : w.cell? p = some v) : p.block < w.heap.size := by
  unfold World.cell? at h
  split at h
  · rename_i h1
    exact (Array.getElem?_eq_some_iff.1 h1).1
  · cases h
theorem cell_spot {w : World} {p : Addr} {v : Value} (h : w.cell? p = some v) : p.spot = none := by
  unfold World.cell? at h
  split at h
  · split at h
    · cases h
    · rename_i h1
      simpa using h1
  · cases h
theorem tabA_of_reads {P : Program} {w : World} {t e sA bA iA : TypeId} {fs : Array Field} (hn : P.globalNamed "peerage/schema.attributeTable" = some 0) (hy : (P.globals[0]?).map (·.type) = some t)
    (ht : P.underlying t = some (.slice e)) (he : P.underlying e = some (.struct fs)) (hc : P.cellsOf e = 5)
    (hf : fs.toList.map (fun f => (f.type, f.offset)) = [(sA, 0), (sA, 1), (sA, 2), (iA, 3), (bA, 4)]) (hs : P.underlying sA = some .string) (hi : P.underlying iA = some (.int .i64)) (hb : P.underlying bA = some .bool)
    (cs1 : P.cellsOf sA = 1) (ci1 : P.cellsOf iA = 1) (cb1 : P.cellsOf bA = 1) {rest : List (String × DataW Unit)}
    (h : laidMet P (("peerage/schema.attributeTable", .slice (atts.map attD) []) :: rest) w) : ∃ g o, TabA w g o := by
  obtain ⟨ps, ⟨g', t', cs, fuel, p, q, hg', ht', hvar, hd, _, _⟩, _⟩ := h
  obtain rfl := Option.some.inj (hn.symm.trans hg')
  obtain rfl := Option.some.inj (hy.symm.trans ht')
  rcases DataW.trod_slice ht hd with ⟨_, hx⟩ | ⟨a, len, cap, el, rs, m, rfl, hcs, hx, _, hlc, _, hel, helem, hsp, _⟩
  · cases hx
  have e0 := congrArg Prod.fst hx
  simp only [DataW.slice.injEq] at e0
  obtain ⟨eE, eR⟩ := e0
  have hlen : len = 20 := by
    have := congrArg List.length eE
    simp [atts] at this
    omega
  have hcap : cap = 20 := by
    have h1 := (hsp rfl).1
    have h2 := congrArg List.length eR
    simp at h2
    omega
  subst hlen
  subst hcap
  have hfield : ∀ (j : Nat) (T : TypeId), (fs.toList.map (fun f => (f.type, f.offset)))[j]? = some (T, j) → ∃ f, fs[j]? = some f ∧ f.type = T ∧ f.offset = j := fun j T h => by
    rw [List.getElem?_map] at h
    obtain ⟨f, h1, h2⟩ := Option.map_eq_some_iff.1 h
    injection h2 with h2 h3
    exact ⟨f, by rw [← Array.getElem?_toList]; exact h1, h2, h3⟩
  rw [hf] at hfield
  obtain ⟨f0, k0, t0, o0⟩ := hfield 0 sA rfl
  obtain ⟨f1, k1, t1, o1⟩ := hfield 1 sA rfl
  obtain ⟨f2, k2, t2, o2⟩ := hfield 2 sA rfl
  obtain ⟨f3, k3, t3, o3⟩ := hfield 3 iA rfl
  obtain ⟨f4, k4, t4, o4⟩ := hfield 4 bA rfl
  have hrow : ∀ (i : Nat) (x : At), atts[i]? = some x → w.cell? ((a.add (i * 5)).add 0) = some (.string (baO x.name)) ∧ w.cell? ((a.add (i * 5)).add 1) = some (.string (baO x.alias)) ∧
      w.cell? ((a.add (i * 5)).add 2) = some (.string (baO x.oid)) ∧ w.cell? ((a.add (i * 5)).add 3) = some (.int .i64 (x.syn : Int)) ∧ w.cell? ((a.add (i * 5)).add 4) = some (.bool x.single) := fun i x hxi => by
    have hi20 : i < 20 := (List.getElem?_eq_some_iff.1 hxi).1
    have h1 := helem i hi20
    rw [hc] at h1
    obtain ⟨b, hbe⟩ : ∃ b, el[i]? = some b := ⟨el[i]'(by omega), List.getElem?_eq_getElem (by omega)⟩
    rw [hbe] at h1
    obtain ⟨ce, hce, hte⟩ := Option.bind_eq_some_iff.1 h1
    obtain ⟨_, hcl, hcc⟩ := World.cells?_some hce
    have hb1 : b.1 = attD x := by
      have := congrArg (·[i]?) eE
      simp only [List.getElem?_map, hbe, hxi, Option.map_some] at this
      injection this with this
      exact this.symm
    obtain ⟨xs, n, _, hxs, _, hxl, hfl⟩ := DataW.trod_struct he hte
    rw [hxs] at hb1
    have hag : xs.map (·.1) = [.lit (.string x.name), .lit (.string x.alias), .lit (.string x.oid), .lit (.int .i64 (x.syn : Int)), .lit (.bool x.single)] := by
      injection hb1
    have hx5 : xs.length = 5 := by
      have := congrArg List.length hag
      simpa using this
    have hj : ∀ (j : Nat) (f : Field) (d : DataW Unit), fs[j]? = some f → f.offset = j → P.cellsOf f.type = 1 → (xs.map (·.1))[j]? = some d → j < 5 → ∃ v q, ce[j]? = some v ∧ DataW.trod (fun _ => ()) P w 0 (fun _ => true) false n f.type [v] = some (d, q) := fun j f d h1 h2 h3 h4 h5 => by
      have h6 := hfl j f h1
      rw [h2, h3] at h6
      rw [List.getElem?_map] at h4
      obtain ⟨y, h7, h8⟩ := Option.map_eq_some_iff.1 h4
      rw [h7] at h6
      have hjl : j < ce.length := by omega
      refine ⟨ce[j], y.2, List.getElem?_eq_getElem hjl, ?_⟩
      rw [List.drop_eq_getElem_cons hjl] at h6
      rw [← h8]
      exact h6
    rw [hag] at hj
    have str : ∀ {T : TypeId} {v : Value} {l : List UInt8} {q : List MemPlace}, P.underlying T = some .string → DataW.trod (fun _ => ()) P w 0 (fun _ => true) false n T [v] = some (.lit (.string l), q) → v = .string (baO l) := fun hT h => by
      obtain ⟨s, h1, h2, _⟩ := DataW.trod_string hT h
      injection h1 with h1
      injection h2 with h2
      injection h2 with h2
      injection h2 with h2
      rw [h1, eq_baO h2.symm]
    obtain ⟨v0, q0, c0, r0⟩ := hj 0 f0 _ k0 o0 (by rw [t0]; exact cs1) rfl (by omega)
    obtain ⟨v1, q1, c1, r1⟩ := hj 1 f1 _ k1 o1 (by rw [t1]; exact cs1) rfl (by omega)
    obtain ⟨v2, q2, c2, r2⟩ := hj 2 f2 _ k2 o2 (by rw [t2]; exact cs1) rfl (by omega)
    obtain ⟨v3, q3, c3, r3⟩ := hj 3 f3 _ k3 o3 (by rw [t3]; exact ci1) rfl (by omega)
    obtain ⟨v4, q4, c4, r4⟩ := hj 4 f4 _ k4 o4 (by rw [t4]; exact cb1) rfl (by omega)
    have e0 := str (by rw [t0]; exact hs) r0
    have e1 := str (by rw [t1]; exact hs) r1
    have e2 := str (by rw [t2]; exact hs) r2
    obtain ⟨z, z1, z2, _⟩ := DataW.trod_int (by rw [t3]; exact hi) r3
    obtain ⟨y, y1, y2⟩ := DataW.trod_bool (by rw [t4]; exact hb) r4
    injection z1 with z1
    injection z2 with z2
    injection z2 with z2
    injection z2 with _ z2
    injection y1 with y1
    injection y2 with y2
    injection y2 with y2
    injection y2 with y2
    refine ⟨?_, ?_, ?_, ?_, ?_⟩
    · rw [hcc 0 (by omega), c0, e0]
    · rw [hcc 1 (by omega), c1, e1]
    · rw [hcc 2 (by omega), c2, e2]
    · rw [hcc 3 (by omega), c3, z1, ← z2]
    · rw [hcc 4 (by omega), c4, y1, ← y2]
  obtain ⟨R, o, sp⟩ := a
  have h0 := (hrow 0 _ rfl).1
  have hsp0 := cell_spot h0
  have hR := cell_size h0
  obtain rfl : sp = none := by
    simpa [Addr.add] using hsp0
  have hv := World.var?_cell hn hvar 0
  have hcs' : cs = #[.slice (some ⟨R, o, none⟩) 20 20] := by
    apply Array.ext'
    simpa using hcs
  rw [hcs'] at hv
  refine ⟨R, o, ?_, ?_, hv, ?_⟩
  · exact cell_size hv
  · simpa [Addr.add] using hR
  · intro i x hx
    obtain ⟨h0, h1, h2, h3, h4⟩ := hrow i x hx
    rw [addr_add7] at h0 h1 h2 h3 h4
    simp only [Addr.add_lit] at h0 h1 h2 h3 h4
    exact ⟨h0, h1, h2, h3, h4⟩

/-- What named answers: the closure, whose box at b holds the small letters. -/
def NamedS (s : List UInt8) (e : Ending) (w w' : World) : Prop := ∃ b : Nat, e = .returned (.func (.func 170) #[] #[.pointer (some ⟨b, 0, none⟩)]) ∧ w.heap.size ≤ b ∧ b < w'.heap.size ∧ w'.heap[b]? = some (.cells #[.string (baO (lowL s))] 9) ∧ Below w.heap.size w w'
set_option maxRecDepth 4000 in
set_option maxHeartbeats 800000 in
theorem named_any (s : ByteArray) (w : World) (hs : s.size ≤ 1000000) : Calls Tryz.prog 148 #[.string s] w fun e w' => NamedS s.data.toList e w w' := by
  have CL := Lib.hid (lower_any s w hs)
  go_enter Tryz.func148, Tryz.ntmps148
  go_wp2_with fail
  refine CL.out.mono ?_
  rintro _ w1 ⟨rfl, hb⟩
  replace hb := Lib.hid hb
  have hz := hb.out.size
  dsimp only []
  go_wp2_with fail
  go_ret
  exact ⟨w1.heap.size, rfl, hz, by simp, heap_alloc_new w1 _, hb.out.trans ((Below.refl _ _).alloc hz _)⟩
set_option maxRecDepth 4000 in
set_option maxHeartbeats 1600000 in
theorem named1_any (x l : List UInt8) (b : Nat) (w : World) (hx : x.length ≤ 1000000) (hb : b < w.heap.size) (hc : w.cell? ⟨b, 0, none⟩ = some (.string (baO l))) :
    Calls Tryz.prog 170 #[.string (baO x), .pointer (some ⟨b, 0, none⟩)] w fun e w' => e = .returned (.bool (decide (lowL x = l))) ∧ Below w.heap.size w w' := by
  have zx : (baO x).size = x.length := baO_size x
  have zl : (baO l).size = l.length := baO_size l
  have hlow : (lowL x).length = x.length := by rw [lowL, List.length_map]
  by_cases hlen : x.length = l.length
  · have CL := Lib.hid fun W => lower_any (baO x) W (by omega)
    rw [baO_list] at CL
    have g1 : ((x.length : Int) == (l.length : Int)) = true := by rw [hlen]; simp
    obtain ⟨y, hy⟩ : ∃ y, lowL x = y := ⟨_, rfl⟩
    rw [hy] at CL
    obtain ⟨q, hq⟩ : ∃ q, decide (y = l) = q := ⟨_, rfl⟩
    rw [hy, hq]
    have e1 : ((baO y).toList == (baO l).toList) = q := by
      rw [baO_toList, baO_toList, ← hq, Bool.eq_iff_iff, beq_iff_eq, decide_eq_true_eq]
    have KEEP : Hid (∀ W, Below w.heap.size w W → W.cell? ⟨b, 0, none⟩ = some (.string (baO l)) ∧ b < W.heap.size) := Lib.hid fun W h => ⟨(h.cell (p := ⟨b, 0, none⟩) hb).trans hc, Nat.lt_of_lt_of_le hb h.size⟩
    replace hy := Lib.hid hy
    replace hq := Lib.hid hq
    clear hlow hlen
    go_enter Tryz.func170, Tryz.ntmps170
    go_wp2_with fail
    go_region_held_law (fun W => W.cell? ⟨b, 0, none⟩ = some (.string (baO l)) ∧ b < W.heap.size) (first | go_keep | exact KEEP.out _ HB3.out)
      (first | (go_at_call 121; (with_reducible refine (CL.out _).mono ?_); rintro _ w3 ⟨rfl, hb3⟩; have HB3 := Lib.hid (show Below w.heap.size w w3 from (Below.refl w.heap.size w).trans ⟨hb3.os, hb3.tape, hb3.output, hb3.size, hb3.block⟩); clear hb3))
    all_goals
      go_wp2_with fail
      go_ret
      exact ⟨rfl, HB3.out⟩
  · have hne : decide (lowL x = l) = false := decide_eq_false fun h => hlen (by rw [← h, hlow])
    have g1 : ((x.length : Int) == (l.length : Int)) = false := beq_eq_false_iff_ne.2 (by omega)
    have g2 : ¬ (x.length : Int) = (l.length : Int) := by omega
    replace hne := Lib.hid hne
    go_enter Tryz.func170, Tryz.ntmps170
    go_wp2_with fail
    go_quiet (fail)
    go_wp2_with fail
    go_ret
    exact ⟨by rw [hne.out]; rfl, below_drewN8 (Below.refl _ _) _⟩

theorem low_nil {l : List UInt8} : lowL l = [] ↔ l = [] := by unfold lowL; simp
theorem beq_dec (x y : List UInt8) : (x == y) = decide (y = x) := by
  rw [Bool.eq_iff_iff, beq_iff_eq, decide_eq_true_eq]
  exact eq_comm
theorem atB_prog (s : List UInt8) (a : At) : atB (lowL s) s a = (decide (lowL a.name = lowL s) || (!(a.alias == []) && decide (lowL a.alias = lowL s)) || (a.oid == s)) := by
  unfold atB
  rw [beq_dec (lowL s) (lowL a.name), show (s == a.oid) = (a.oid == s) from BEq.comm]
  congr 2
  rw [Bool.eq_iff_iff]
  simp only [Bool.and_eq_true, beq_iff_eq, Bool.not_eq_true', beq_eq_false_iff_ne, decide_eq_true_eq]
  constructor
  · rintro ⟨h1, h2⟩
    exact ⟨fun h => h2 (by rw [h1, h]; rfl), h1.symm⟩
  · rintro ⟨h1, h2⟩
    exact ⟨h2.symm, fun h => h1 (low_nil.1 (by rw [h2, h]))⟩
theorem row5 {w : World} {b : Nat} {v0 v1 v2 v3 v4 : Value} {T : TypeId} (h : w.heap[b]? = some (.cells #[v0, v1, v2, v3, v4] T (0, 0))) :
    w.cell? ⟨b, 0, none⟩ = some v0 ∧ w.cell? ⟨b, 1, none⟩ = some v1 ∧ w.cell? ⟨b, 2, none⟩ = some v2 ∧ w.cell? ⟨b, 3, none⟩ = some v3 ∧ w.cell? ⟨b, 4, none⟩ = some v4 ∧
    w.frozen? ⟨b, 0, none⟩ = false ∧ w.frozen? ⟨b, 1, none⟩ = false ∧ w.frozen? ⟨b, 2, none⟩ = false ∧ w.frozen? ⟨b, 3, none⟩ = false ∧ w.frozen? ⟨b, 4, none⟩ = false :=
  ⟨cell_of_row _ _ _ _ _ _ h, cell_of_row _ _ _ _ _ _ h, cell_of_row _ _ _ _ _ _ h, cell_of_row _ _ _ _ _ _ h, cell_of_row _ _ _ _ _ _ h,
   frozen_of_row _ _ _ _ _ h, frozen_of_row _ _ _ _ _ h, frozen_of_row _ _ _ _ _ h, frozen_of_row _ _ _ _ _ h, frozen_of_row _ _ _ _ _ h⟩
set_option maxRecDepth 8000 in
set_option maxHeartbeats 4000000 in
theorem find_any (s : ByteArray) (g o : Nat) (w : World) (hs : s.size ≤ 600) (HT : TabA w g o) :
    Calls Tryz.prog 123 #[.string s] w fun e w' => e = .returned (valA (findA s.data.toList)) ∧ Below w.heap.size w w' := by
  have CN := Lib.hid fun W => named_any s W (by omega)
  have hlen : Hid (atts.length = 20) := Lib.hid rfl
  replace HT := Lib.hid HT
  go_enter Tryz.func123, Tryz.ntmps123
  go_wp2_with fail
  obtain ⟨v, hv⟩ : ∃ v, v = w.alloc (.cells #[.string ⟨#[]⟩, .string ⟨#[]⟩, .string ⟨#[]⟩, .int .i64 0, .bool false] 158) := ⟨_, rfl⟩
  have hb : Below w.heap.size w v := by rw [hv]; exact (Below.refl _ _).alloc (Nat.le_refl _) _
  have HC0 := Lib.hid (show v.heap[w.heap.size]? = some (.cells #[.string ⟨#[]⟩, .string ⟨#[]⟩, .string ⟨#[]⟩, .int .i64 0, .bool false] 158) by rw [hv]; exact heap_alloc_new w _)
  have zv : v.heap.size = w.heap.size + 1 := by rw [hv]; simp
  rw [← hv]
  replace hv := Lib.hid hv
  have HT1 := Lib.hid (HT.out.below hb)
  have HB0 := Lib.hid hb
  clear hb
  refine (CN.out v).mono ?_
  rintro _ w1 ⟨b, rfl, hb1, hb2, hbc, hb⟩
  have HT2 := Lib.hid (HT1.out.below hb)
  have HB1 := Lib.hid (HB0.out.trans (hb.mono (by omega)))
  have HC1 := Lib.hid ((hb.block w.heap.size (by omega)).trans HC0.out)
  have hz1 := hb.size
  have HBC := Lib.hid (show w1.cell? ⟨b, 0, none⟩ = some (.string (baO (lowL s.data.toList))) from cell_of_row _ _ _ _ _ _ hbc)
  have t0 := HT2.out.2.2.1
  clear hb CN hbc
  dsimp only []
  go_wp2_with fail
  go_loopw [11] (fun iv wr => ∃ k : Nat, k ≤ 20 ∧ iv = .int .i64 (k : Int) ∧ Hid (∀ j < k, ∀ a, atts[j]? = some a → atB (lowL s.data.toList) s.data.toList a = false) ∧ Hid (Below w1.heap.size w1 wr)) (fun iv _ => 20 - (intOf iv).toNat)
  case atStart => exact ⟨0, Nat.zero_le _, rfl, Lib.hid (fun j hj => absurd hj (Nat.not_lt_zero _)), Lib.hid (Below.refl _ _)⟩
  case round =>
    obtain ⟨k, hk, rfl, HF, HR⟩ := hrel
    have zr := HR.out.size
    by_cases hlt : k < 20
    · have i0 : (0 : Int) ≤ (k : Int) := by omega
      have i1 : (k : Int) < 20 := by omega
      obtain ⟨a, ha⟩ : ∃ a, atts[k]? = some a := ⟨atts[k]'(by rw [hlen.out]; exact hlt), List.getElem?_eq_getElem _⟩
      obtain ⟨c0, c1, c2, c3, c4⟩ := (HT2.out.below HR.out).2.2.2 k a ha
      have hal := att_len a (List.mem_of_getElem? ha)
      obtain ⟨q, hq⟩ : ∃ q, atB (lowL s.data.toList) s.data.toList a = q := ⟨_, rfl⟩
      have HQ := Lib.hid ((atB_prog s.data.toList a).symm.trans hq)
      replace hq := Lib.hid hq
      obtain ⟨V, hV⟩ : ∃ V, V = wr.alloc (.cells #[.string (baO a.name), .string (baO a.alias), .string (baO a.oid), .int .i64 (a.syn : Int), .bool a.single] 158) := ⟨_, rfl⟩
      have OV := Lib.hid (show V.heap[wr.heap.size]? = some (.cells #[.string (baO a.name), .string (baO a.alias), .string (baO a.oid), .int .i64 (a.syn : Int), .bool a.single] 158) by rw [hV]; exact heap_alloc_new wr _)
      have HRV := Lib.hid (HR.out.trans (show Below w1.heap.size wr V by rw [hV]; exact (Below.refl _ _).alloc zr _))
      have zV : V.heap.size = wr.heap.size + 1 := by rw [hV]; simp
      have N1 := Lib.hid fun (x : List UInt8) (W : World) (hx : x.length ≤ 60) (hB : Below V.heap.size V W) => named1_any x (lowL s.data.toList) b W (by omega) (by have := hB.size; omega) (((HRV.out.trans (hB.mono (by omega))).cell (p := ⟨b, 0, none⟩) hb2).trans HBC.out)
      go_upto_region 5 with fail
      go_cut [11, 35] from 11 to 37 (fun iv c wx => iv = .int .i64 (k : Int) ∧ c = .bool q ∧ Hid (Below V.heap.size V wx))
      case first =>
        have p0 : V.cell? ⟨wr.heap.size, 0, none⟩ = some (.string (baO a.name)) := cell_of_row _ _ _ _ _ _ OV.out
        clear c0 c1 c2 c3 c4
        have done : ∀ v : Bool, (decide (lowL a.name = lowL s.data.toList) || (!(a.alias == []) && decide (lowL a.alias = lowL s.data.toList)) || (a.oid == s.data.toList)) = v → Value.bool v = Value.bool q := fun v h => by rw [← HQ.out, h]
        replace done := Lib.hid done
        go_wp2_with fail
        rw [← hV]
        refine (N1.out a.name V hal.1 (Below.refl _ _)).mono ?_
        rintro _ w3 ⟨rfl, hb3⟩
        have HL3 := Lib.hid hb3
        have OV3 := (hb3.block wr.heap.size (by omega)).trans OV.out
        have d1 : w3.cell? ⟨wr.heap.size, 1, none⟩ = some (.string (baO a.alias)) := cell_of_row _ _ _ _ _ _ OV3
        have d2 : w3.cell? ⟨wr.heap.size, 2, none⟩ = some (.string (baO a.oid)) := cell_of_row _ _ _ _ _ _ OV3
        replace OV3 := Lib.hid OV3
        clear hb3 p0
        by_cases e1 : lowL a.name = lowL s.data.toList
        · rw [decide_eq_true e1] at done ⊢
          dsimp only []
          go_wp2_with fail
          go_meet
          exact ⟨rfl, done.out true (by simp), HL3⟩
        · rw [decide_eq_false e1] at done ⊢
          replace e1 := Lib.hid e1
          dsimp only []
          have oids : ∀ (W : World) (x : Bool), x = (a.oid == s.data.toList) → x = ((baO a.oid).toList == s.toList) := fun _ x h => by rw [h, baO_toList, ByteArray.toList_eq]
          by_cases e3 : a.alias = []
          · have f1 : (baO a.alias).toList = [] := by rw [baO_toList, e3]
            have f2 : (baO a.alias).toList.isEmpty = true := by rw [f1]; rfl
            have hd := Lib.hid (fun v (h : (a.oid == s.data.toList) = v) => done.out v (by rw [e3]; simpa using h))
            replace e3 := Lib.hid e3
            by_cases e4 : a.oid = s.data.toList
            · have e4b : ((baO a.oid).toList == s.toList) = true := beq_iff_eq.2 (by rw [baO_toList, ByteArray.toList_eq, e4])
              have hd1 := Lib.hid (hd.out true (beq_iff_eq.2 e4))
              replace e4 := Lib.hid e4
              go_wp2_with fail
              go_meet
              exact ⟨rfl, hd1.out, HL3⟩
            · have e4' : ¬ (baO a.oid).toList = s.toList := by rw [baO_toList, ByteArray.toList_eq]; exact e4
              have e4b : ((baO a.oid).toList == s.toList) = false := beq_eq_false_iff_ne.2 e4'
              have hd1 := Lib.hid (hd.out false (beq_eq_false_iff_ne.2 e4))
              replace e4 := Lib.hid e4
              go_wp2_with fail
              go_meet
              exact ⟨rfl, hd1.out, HL3⟩
          · have f1 : ¬ (baO a.alias).toList = [] := by rw [baO_toList]; exact e3
            have f2 : (baO a.alias).toList.isEmpty = false := by simpa using f1
            have hd0 := Lib.hid (fun v (h : (decide (lowL a.alias = lowL s.data.toList) || (a.oid == s.data.toList)) = v) => done.out v (by
              rw [show (a.alias == []) = false from beq_eq_false_iff_ne.2 e3]
              simpa using h))
            replace e3 := Lib.hid e3
            go_wp2_with fail
            refine (N1.out a.alias w3 hal.2.1 HL3.out).mono ?_
            rintro _ w4 ⟨rfl, hb4⟩
            have z3 := HL3.out.size
            have HL4 := Lib.hid (HL3.out.trans (hb4.mono z3))
            have g2 : w4.cell? ⟨wr.heap.size, 2, none⟩ = some (.string (baO a.oid)) := (hb4.cell (p := ⟨wr.heap.size, 2, none⟩) (by show wr.heap.size < _; omega)).trans d2
            clear hb4 d1 d2 HL3
            by_cases e4 : lowL a.alias = lowL s.data.toList
            · rw [decide_eq_true e4] at hd0 ⊢
              dsimp only []
              go_wp2_with fail
              go_meet
              exact ⟨rfl, hd0.out true (by simp), HL4⟩
            · rw [decide_eq_false e4] at hd0 ⊢
              have hd := Lib.hid (fun v (h : (a.oid == s.data.toList) = v) => hd0.out v (by simpa using h))
              replace e4 := Lib.hid e4
              dsimp only []
              by_cases e5 : a.oid = s.data.toList
              · have e5b : ((baO a.oid).toList == s.toList) = true := beq_iff_eq.2 (by rw [baO_toList, ByteArray.toList_eq, e5])
                have hd1 := Lib.hid (hd.out true (beq_iff_eq.2 e5))
                replace e5 := Lib.hid e5
                go_wp2_with fail
                go_meet
                exact ⟨rfl, hd1.out, HL4⟩
              · have e5' : ¬ (baO a.oid).toList = s.toList := by rw [baO_toList, ByteArray.toList_eq]; exact e5
                have e5b : ((baO a.oid).toList == s.toList) = false := beq_eq_false_iff_ne.2 e5'
                have hd1 := Lib.hid (hd.out false (beq_eq_false_iff_ne.2 e5))
                replace e5 := Lib.hid e5
                go_wp2_with fail
                go_meet
                exact ⟨rfl, hd1.out, HL4⟩
      case rest =>
        obtain ⟨rfl, rfl, HLc⟩ := hcut
        have hsc := HLc.out.size
        have OVc := (HLc.out.block wr.heap.size (by omega)).trans OV.out
        have hcc := (HLc.out.block w.heap.size (by omega)).trans ((HRV.out.block w.heap.size (by omega)).trans HC1.out)
        have HBc := Lib.hid (HB1.out.trans ((HRV.out.trans (HLc.out.mono (by omega))).mono (by omega)))
        have HRc := Lib.hid (HRV.out.trans (HLc.out.mono (by omega)))
        clear c0 c1 c2 c3 c4
        rcases q with _ | _
        rotate_left
        · have e := hq.out
          have hfa := Lib.hid (show findA s.data.toList = some a from find_at ha e HF.out)
          obtain ⟨m0, m1, m2, m3, m4, _, _, _, _, _⟩ := row5 OVc
          replace OVc := Lib.hid OVc
          obtain ⟨r0, r1, r2, r3, r4, f0, f1, f2, f3, f4⟩ := row5 hcc
          have HC := Lib.hid (set5_same hcc (.string (baO a.name)) (.string (baO a.alias)) (.string (baO a.oid)) (.int .i64 (a.syn : Int)) (.bool a.single))
          have HE := Lib.hid (set5_below HBc.out (Nat.le_refl _) (.string (baO a.name)) (.string (baO a.alias)) (.string (baO a.oid)) (.int .i64 (a.syn : Int)) (.bool a.single))
          replace hcc := Lib.hid hcc
          try dsimp only []
          go_wp2_with fail
          have HX : set5 wc w.heap.size (.string (baO a.name)) (.string (baO a.alias)) (.string (baO a.oid)) (.int .i64 (a.syn : Int)) (.bool a.single) = (((((wc.setCell ⟨w.heap.size, 0, none⟩ (.string (baO a.name))).setCell ⟨w.heap.size, 1, none⟩ (.string (baO a.alias))).setCell ⟨w.heap.size, 2, none⟩ (.string (baO a.oid))).setCell ⟨w.heap.size, 3, none⟩ (.int .i64 (a.syn : Int))).setCell ⟨w.heap.size, 4, none⟩ (.bool a.single)) := rfl
          rw [← HX]
          obtain ⟨W5, hW5⟩ : ∃ W5, W5 = set5 wc w.heap.size (.string (baO a.name)) (.string (baO a.alias)) (.string (baO a.oid)) (.int .i64 (a.syn : Int)) (.bool a.single) := ⟨_, rfl⟩
          rw [← hW5] at HE HC ⊢
          clear HX hW5 r0 f0 r1 f1 r2 f2 r3 f3 r4 f4
          obtain ⟨q0, q1, q2, q3, q4, _, _, _, _, _⟩ := row5 HC.out
          exact bodyPost_ret (v := valA (some a)) (by simp [results, valA, Tryz.results123, go_sem, q0, q1, q2, q3, q4]) rfl ⟨by rw [hfa.out], HE.out⟩
        · have hno := Lib.hid hq.out
          replace hcc := Lib.hid hcc
          replace OVc := Lib.hid OVc
          try dsimp only []
          go_wp2_with fail
          go_roundw
          case rel =>
            refine ⟨k + 1, by omega, by go_num, Lib.hid (fun j hj b hb => ?_), HRc⟩
            by_cases hjk : j < k
            · exact HF.out j hjk b hb
            · obtain rfl : j = k := by omega
              rw [ha] at hb
              injection hb with hb
              rw [← hb]
              exact hno.out
          case measure => simp [intOf]; omega
    · obtain rfl : k = 20 := by omega
      have hfa := Lib.hid (show findA s.data.toList = none from find_no (by rw [hlen.out]; exact HF.out))
      have i1 : ¬ ((20 : Nat) : Int) < 20 := by omega
      have hcc := (HR.out.block w.heap.size (by omega)).trans HC1.out
      have HBc := Lib.hid (HB1.out.trans (HR.out.mono (by omega)))
      obtain ⟨r0, r1, r2, r3, r4, f0, f1, f2, f3, f4⟩ := row5 hcc
      have HC := Lib.hid (set5_same hcc (.string ⟨#[]⟩) (.string ⟨#[]⟩) (.string ⟨#[]⟩) (.int .i64 0) (.bool false))
      have HE := Lib.hid (set5_below HBc.out (Nat.le_refl _) (.string ⟨#[]⟩) (.string ⟨#[]⟩) (.string ⟨#[]⟩) (.int .i64 0) (.bool false))
      replace hcc := Lib.hid hcc
      try dsimp only []
      go_wp2_with fail
      have HX : set5 wr w.heap.size (.string ⟨#[]⟩) (.string ⟨#[]⟩) (.string ⟨#[]⟩) (.int .i64 0) (.bool false) = (((((wr.setCell ⟨w.heap.size, 0, none⟩ (.string ⟨#[]⟩)).setCell ⟨w.heap.size, 1, none⟩ (.string ⟨#[]⟩)).setCell ⟨w.heap.size, 2, none⟩ (.string ⟨#[]⟩)).setCell ⟨w.heap.size, 3, none⟩ (.int .i64 0)).setCell ⟨w.heap.size, 4, none⟩ (.bool false)) := rfl
      rw [← HX]
      obtain ⟨W5, hW5⟩ : ∃ W5, W5 = set5 wr w.heap.size (.string ⟨#[]⟩) (.string ⟨#[]⟩) (.string ⟨#[]⟩) (.int .i64 0) (.bool false) := ⟨_, rfl⟩
      rw [← hW5] at HE HC ⊢
      clear HX hW5 r0 f0 r1 f1 r2 f2 r3 f3 r4 f4
      obtain ⟨q0, q1, q2, q3, q4, _, _, _, _, _⟩ := row5 HC.out
      exact bodyPost_ret (v := valA none) (by simp [results, valA, Tryz.results123, go_sem, q0, q1, q2, q3, q4]) rfl ⟨by rw [hfa.out], HE.out⟩
end Go.Proofs.YtkffgdndglfcfaaGreatDoor.J15
