/-
  The program's table of attributes: what its variable leads to.
-/
import Derived.Test.YtllmffmmfpecaaaDoorFindsH
import Derived.Lib.LaidTab
namespace Go.Proofs.YtllmffmmfpecaaaDoor
open Go.RowKit

/-- The table of attributes lies at g from the offset o on. -/
def AttO (w : World) (g o : Nat) : Prop := ∀ (i : Nat) (a : At), atts[i]? = some a →
  w.cell? ⟨g, o + i * 5, none⟩ = some (.string (baO a.name)) ∧ w.cell? ⟨g, o + i * 5 + 1, none⟩ = some (.string (baO a.alias)) ∧ w.cell? ⟨g, o + i * 5 + 2, none⟩ = some (.string (baO a.oid)) ∧
  w.cell? ⟨g, o + i * 5 + 3, none⟩ = some (.int .i64 (a.syn : Int)) ∧ w.cell? ⟨g, o + i * 5 + 4, none⟩ = some (.bool a.single)
theorem AttO.below {w w' : World} {K g o : Nat} (h : AttO w g o) (hg : g < K) (hb : Below K w w') : AttO w' g o := by
  intro i a ha
  have hk : ∀ j, w'.cell? ⟨g, j, none⟩ = w.cell? ⟨g, j, none⟩ := fun j => hb.cell (p := ⟨g, j, none⟩) hg
  rw [hk, hk, hk, hk, hk]
  exact h i a ha
/-- The variable holds a slice of twenty rows, which lie at g from o on. -/
def TabA (w : World) (g o : Nat) : Prop := 0 < w.heap.size ∧ g < w.heap.size ∧ w.cell? ⟨0, 0, none⟩ = some (.slice (some ⟨g, o, none⟩) 20 20) ∧ AttO w g o
theorem TabA.below {w w' : World} {g o : Nat} (h : TabA w g o) (hb : Below w.heap.size w w') : TabA w' g o :=
  ⟨Nat.lt_of_lt_of_le h.1 hb.size, Nat.lt_of_lt_of_le h.2.1 hb.size, (hb.cell (p := ⟨_, 0, none⟩) h.1).trans h.2.2.1, h.2.2.2.below h.2.1 hb⟩
def attD (a : At) : DataW Unit := .agg [.lit (.string a.name), .lit (.string a.alias), .lit (.string a.oid), .lit (.int .i64 (a.syn : Int)), .lit (.bool a.single)]
theorem cell_size {w : World} {p : Addr} {v : Value} (h : w.cell? p = some v) : p.block < w.heap.size := by
  unfold World.cell? at h
  split at h
  · rename_i h1
    exact (Array.getElem?_eq_some_iff.1 h1).1
  · cases h
theorem cell_spot {w : World} {p : Addr} {v : Value} (h : w.cell? p = some v) : p.spot = none := by
  unfold World.cell? at h
  split at h
  · split at h
    · cases h
    · rename_i h1
      simpa using h1
  · cases h
theorem tabA_of_reads {P : Program} {w : World} {t e sA bA iA : TypeId} {fs : Array Field} (hn : P.globalNamed "peerage/schema.attributeTable" = some 0) (hy : (P.globals[0]?).map (·.type) = some t)
    (ht : P.underlying t = some (.slice e)) (he : P.underlying e = some (.struct fs)) (hc : P.cellsOf e = 5)
    (hf : fs.toList.map (fun f => (f.type, f.offset)) = [(sA, 0), (sA, 1), (sA, 2), (iA, 3), (bA, 4)]) (hs : P.underlying sA = some .string) (hi : P.underlying iA = some (.int .i64)) (hb : P.underlying bA = some .bool)
    (cs1 : P.cellsOf sA = 1) (ci1 : P.cellsOf iA = 1) (cb1 : P.cellsOf bA = 1) {rest : List (String × DataW Unit)}
    (h : laidMet P (("peerage/schema.attributeTable", .slice (atts.map attD) []) :: rest) w) : ∃ g o, TabA w g o := by
  obtain ⟨ps, ⟨g', t', cs, fuel, p, q, hg', ht', hvar, hd, _, _⟩, _⟩ := h
  obtain rfl := Option.some.inj (hn.symm.trans hg')
  obtain rfl := Option.some.inj (hy.symm.trans ht')
  rcases DataW.trod_slice ht hd with ⟨_, hx⟩ | ⟨a, len, cap, el, rs, m, rfl, hcs, hx, _, hlc, _, hel, helem, hsp, _⟩
  · cases hx
  have e0 := congrArg Prod.fst hx
  simp only [DataW.slice.injEq] at e0
  obtain ⟨eE, eR⟩ := e0
  have hlen : len = 20 := by
    have := congrArg List.length eE
    simp [atts] at this
    omega
  have hcap : cap = 20 := by
    have h1 := (hsp rfl).1
    have h2 := congrArg List.length eR
    simp at h2
    omega
  subst hlen
  subst hcap
  have hfield : ∀ (j : Nat) (T : TypeId), (fs.toList.map (fun f => (f.type, f.offset)))[j]? = some (T, j) → ∃ f, fs[j]? = some f ∧ f.type = T ∧ f.offset = j := fun j T h => by
    rw [List.getElem?_map] at h
    obtain ⟨f, h1, h2⟩ := Option.map_eq_some_iff.1 h
    injection h2 with h2 h3
    exact ⟨f, by rw [← Array.getElem?_toList]; exact h1, h2, h3⟩
  rw [hf] at hfield
  obtain ⟨f0, k0, t0, o0⟩ := hfield 0 sA rfl
  obtain ⟨f1, k1, t1, o1⟩ := hfield 1 sA rfl
  obtain ⟨f2, k2, t2, o2⟩ := hfield 2 sA rfl
  obtain ⟨f3, k3, t3, o3⟩ := hfield 3 iA rfl
  obtain ⟨f4, k4, t4, o4⟩ := hfield 4 bA rfl
  have hrow : ∀ (i : Nat) (x : At), atts[i]? = some x → w.cell? ((a.add (i * 5)).add 0) = some (.string (baO x.name)) ∧ w.cell? ((a.add (i * 5)).add 1) = some (.string (baO x.alias)) ∧
      w.cell? ((a.add (i * 5)).add 2) = some (.string (baO x.oid)) ∧ w.cell? ((a.add (i * 5)).add 3) = some (.int .i64 (x.syn : Int)) ∧ w.cell? ((a.add (i * 5)).add 4) = some (.bool x.single) := fun i x hxi => by
    have hi20 : i < 20 := (List.getElem?_eq_some_iff.1 hxi).1
    have h1 := helem i hi20
    rw [hc] at h1
    obtain ⟨b, hbe⟩ : ∃ b, el[i]? = some b := ⟨el[i]'(by omega), List.getElem?_eq_getElem (by omega)⟩
    rw [hbe] at h1
    obtain ⟨ce, hce, hte⟩ := Option.bind_eq_some_iff.1 h1
    obtain ⟨_, hcl, hcc⟩ := World.cells?_some hce
    have hb1 : b.1 = attD x := by
      have := congrArg (·[i]?) eE
      simp only [List.getElem?_map, hbe, hxi, Option.map_some] at this
      injection this with this
      exact this.symm
    obtain ⟨xs, n, _, hxs, _, hxl, hfl⟩ := DataW.trod_struct he hte
    rw [hxs] at hb1
    have hag : xs.map (·.1) = [.lit (.string x.name), .lit (.string x.alias), .lit (.string x.oid), .lit (.int .i64 (x.syn : Int)), .lit (.bool x.single)] := by
      injection hb1
    have hx5 : xs.length = 5 := by
      have := congrArg List.length hag
      simpa using this
    have hj : ∀ (j : Nat) (f : Field) (d : DataW Unit), fs[j]? = some f → f.offset = j → P.cellsOf f.type = 1 → (xs.map (·.1))[j]? = some d → j < 5 → ∃ v q, ce[j]? = some v ∧ DataW.trod (fun _ => ()) P w 0 (fun _ => true) false n f.type [v] = some (d, q) := fun j f d h1 h2 h3 h4 h5 => by
      have h6 := hfl j f h1
      rw [h2, h3] at h6
      rw [List.getElem?_map] at h4
      obtain ⟨y, h7, h8⟩ := Option.map_eq_some_iff.1 h4
      rw [h7] at h6
      have hjl : j < ce.length := by omega
      refine ⟨ce[j], y.2, List.getElem?_eq_getElem hjl, ?_⟩
      rw [List.drop_eq_getElem_cons hjl] at h6
      rw [← h8]
      exact h6
    rw [hag] at hj
    have str : ∀ {T : TypeId} {v : Value} {l : List UInt8} {q : List MemPlace}, P.underlying T = some .string → DataW.trod (fun _ => ()) P w 0 (fun _ => true) false n T [v] = some (.lit (.string l), q) → v = .string (baO l) := fun hT h => by
      obtain ⟨s, h1, h2, _⟩ := DataW.trod_string hT h
      injection h1 with h1
      injection h2 with h2
      injection h2 with h2
      injection h2 with h2
      rw [h1, eq_baO h2.symm]
    obtain ⟨v0, q0, c0, r0⟩ := hj 0 f0 _ k0 o0 (by rw [t0]; exact cs1) rfl (by omega)
    obtain ⟨v1, q1, c1, r1⟩ := hj 1 f1 _ k1 o1 (by rw [t1]; exact cs1) rfl (by omega)
    obtain ⟨v2, q2, c2, r2⟩ := hj 2 f2 _ k2 o2 (by rw [t2]; exact cs1) rfl (by omega)
    obtain ⟨v3, q3, c3, r3⟩ := hj 3 f3 _ k3 o3 (by rw [t3]; exact ci1) rfl (by omega)
    obtain ⟨v4, q4, c4, r4⟩ := hj 4 f4 _ k4 o4 (by rw [t4]; exact cb1) rfl (by omega)
    have e0 := str (by rw [t0]; exact hs) r0
    have e1 := str (by rw [t1]; exact hs) r1
    have e2 := str (by rw [t2]; exact hs) r2
    obtain ⟨z, z1, z2, _⟩ := DataW.trod_int (by rw [t3]; exact hi) r3
    obtain ⟨y, y1, y2⟩ := DataW.trod_bool (by rw [t4]; exact hb) r4
    injection z1 with z1
    injection z2 with z2
    injection z2 with z2
    injection z2 with _ z2
    injection y1 with y1
    injection y2 with y2
    injection y2 with y2
    injection y2 with y2
    refine ⟨?_, ?_, ?_, ?_, ?_⟩
    · rw [hcc 0 (by omega), c0, e0]
    · rw [hcc 1 (by omega), c1, e1]
    · rw [hcc 2 (by omega), c2, e2]
    · rw [hcc 3 (by omega), c3, z1, ← z2]
    · rw [hcc 4 (by omega), c4, y1, ← y2]
  obtain ⟨R, o, sp⟩ := a
  have h0 := (hrow 0 _ rfl).1
  have hsp0 := cell_spot h0
  have hR := cell_size h0
  obtain rfl : sp = none := by
    simpa [Addr.add] using hsp0
  have hv := World.var?_cell hn hvar 0
  have hcs' : cs = #[.slice (some ⟨R, o, none⟩) 20 20] := by
    apply Array.ext'
    simpa using hcs
  rw [hcs'] at hv
  refine ⟨R, o, ?_, ?_, hv, ?_⟩
  · exact cell_size hv
  · simpa [Addr.add] using hR
  · intro i x hx
    obtain ⟨h0, h1, h2, h3, h4⟩ := hrow i x hx
    rw [addr_add7] at h0 h1 h2 h3 h4
    simp only [Addr.add_lit] at h0 h1 h2 h3 h4
    exact ⟨h0, h1, h2, h3, h4⟩
end Go.Proofs.YtllmffmmfpecaaaDoor
