/-
  The program's table of classes: what its variable leads to.
-/
import Derived.Test.YtllmffmmfpecaaaDoorTabA8
import Derived.Test.YtllmffmmfpecaaaDoorMC8
namespace Go.Proofs.YtllmffmmfpecaaaDoor
open Go.RowKit

/-- The table of classes lies at g from the offset o on. -/
def ClsO (w : World) (g o : Nat) : Prop := ∀ (i : Nat) (c : Cl), clss[i]? = some c →
  w.cell? ⟨g, o + i * 6, none⟩ = some (.string (baO c.name)) ∧ w.cell? ⟨g, o + i * 6 + 1, none⟩ = some (.string (baO c.oid)) ∧ w.cell? ⟨g, o + i * 6 + 2, none⟩ = some (.string (baO c.super)) ∧
  w.cell? ⟨g, o + i * 6 + 3, none⟩ = some (.int .i64 (c.kind : Int)) ∧ w.cell? ⟨g, o + i * 6 + 4, none⟩ = some (.string (baO (txt c.must))) ∧ w.cell? ⟨g, o + i * 6 + 5, none⟩ = some (.string (baO (txt c.may)))
theorem ClsO.below {w w' : World} {K g o : Nat} (h : ClsO w g o) (hg : g < K) (hb : Below K w w') : ClsO w' g o := by
  intro i a ha
  have hk : ∀ j, w'.cell? ⟨g, j, none⟩ = w.cell? ⟨g, j, none⟩ := fun j => hb.cell (p := ⟨g, j, none⟩) hg
  rw [hk, hk, hk, hk, hk, hk]
  exact h i a ha
/-- The variable holds a slice of ten rows, which lie at g from o on. -/
def TabC (w : World) (g o : Nat) : Prop := 1 < w.heap.size ∧ g < w.heap.size ∧ w.cell? ⟨1, 0, none⟩ = some (.slice (some ⟨g, o, none⟩) 10 10) ∧ ClsO w g o
theorem TabC.below {w w' : World} {g o : Nat} (h : TabC w g o) (hb : Below w.heap.size w w') : TabC w' g o :=
  ⟨Nat.lt_of_lt_of_le h.1 hb.size, Nat.lt_of_lt_of_le h.2.1 hb.size, (hb.cell (p := ⟨_, 0, none⟩) h.1).trans h.2.2.1, h.2.2.2.below h.2.1 hb⟩
def clsD (c : Cl) : DataW Unit := .agg [.lit (.string c.name), .lit (.string c.oid), .lit (.string c.super), .lit (.int .i64 (c.kind : Int)), .lit (.string (txt c.must)), .lit (.string (txt c.may))]
theorem tabC_of_reads {P : Program} {w : World} {t e sA iA : TypeId} {fs : Array Field} (hn : P.globalNamed "peerage/schema.classTable" = some 1) (hy : (P.globals[1]?).map (·.type) = some t)
    (ht : P.underlying t = some (.slice e)) (he : P.underlying e = some (.struct fs)) (hc : P.cellsOf e = 6)
    (hf : fs.toList.map (fun f => (f.type, f.offset)) = [(sA, 0), (sA, 1), (sA, 2), (iA, 3), (sA, 4), (sA, 5)]) (hs : P.underlying sA = some .string) (hi : P.underlying iA = some (.int .i64))
    (cs1 : P.cellsOf sA = 1) (ci1 : P.cellsOf iA = 1) {rest : List (String × DataW Unit)}
    (h : laidMet P (("peerage/schema.classTable", .slice (clss.map clsD) []) :: rest) w) : ∃ g o, TabC w g o := by
  obtain ⟨ps, ⟨g', t', cs, fuel, p, q, hg', ht', hvar, hd, _, _⟩, _⟩ := h
  obtain rfl := Option.some.inj (hn.symm.trans hg')
  obtain rfl := Option.some.inj (hy.symm.trans ht')
  rcases DataW.trod_slice ht hd with ⟨_, hx⟩ | ⟨a, len, cap, el, rs, m, rfl, hcs, hx, _, hlc, _, hel, helem, hsp, _⟩
  · cases hx
  have e0 := congrArg Prod.fst hx
  simp only [DataW.slice.injEq] at e0
  obtain ⟨eE, eR⟩ := e0
  have hlen : len = 10 := by
    have := congrArg List.length eE
    simp [clss] at this
    omega
  have hcap : cap = 10 := by
    have h1 := (hsp rfl).1
    have h2 := congrArg List.length eR
    simp at h2
    omega
  subst hlen
  subst hcap
  have hfield : ∀ (j : Nat) (T : TypeId), (fs.toList.map (fun f => (f.type, f.offset)))[j]? = some (T, j) → ∃ f, fs[j]? = some f ∧ f.type = T ∧ f.offset = j := fun j T h => by
    rw [List.getElem?_map] at h
    obtain ⟨f, h1, h2⟩ := Option.map_eq_some_iff.1 h
    injection h2 with h2 h3
    exact ⟨f, by rw [← Array.getElem?_toList]; exact h1, h2, h3⟩
  rw [hf] at hfield
  obtain ⟨f0, k0, t0, o0⟩ := hfield 0 sA rfl
  obtain ⟨f1, k1, t1, o1⟩ := hfield 1 sA rfl
  obtain ⟨f2, k2, t2, o2⟩ := hfield 2 sA rfl
  obtain ⟨f3, k3, t3, o3⟩ := hfield 3 iA rfl
  obtain ⟨f4, k4, t4, o4⟩ := hfield 4 sA rfl
  obtain ⟨f5, k5, t5, o5⟩ := hfield 5 sA rfl
  have hrow : ∀ (i : Nat) (x : Cl), clss[i]? = some x → w.cell? ((a.add (i * 6)).add 0) = some (.string (baO x.name)) ∧ w.cell? ((a.add (i * 6)).add 1) = some (.string (baO x.oid)) ∧
      w.cell? ((a.add (i * 6)).add 2) = some (.string (baO x.super)) ∧ w.cell? ((a.add (i * 6)).add 3) = some (.int .i64 (x.kind : Int)) ∧ w.cell? ((a.add (i * 6)).add 4) = some (.string (baO (txt x.must))) ∧ w.cell? ((a.add (i * 6)).add 5) = some (.string (baO (txt x.may))) := fun i x hxi => by
    have hi20 : i < 10 := (List.getElem?_eq_some_iff.1 hxi).1
    have h1 := helem i hi20
    rw [hc] at h1
    obtain ⟨b, hbe⟩ : ∃ b, el[i]? = some b := ⟨el[i]'(by omega), List.getElem?_eq_getElem (by omega)⟩
    rw [hbe] at h1
    obtain ⟨ce, hce, hte⟩ := Option.bind_eq_some_iff.1 h1
    obtain ⟨_, hcl, hcc⟩ := World.cells?_some hce
    have hb1 : b.1 = clsD x := by
      have := congrArg (·[i]?) eE
      simp only [List.getElem?_map, hbe, hxi, Option.map_some] at this
      injection this with this
      exact this.symm
    obtain ⟨xs, n, _, hxs, _, hxl, hfl⟩ := DataW.trod_struct he hte
    rw [hxs] at hb1
    have hag : xs.map (·.1) = [.lit (.string x.name), .lit (.string x.oid), .lit (.string x.super), .lit (.int .i64 (x.kind : Int)), .lit (.string (txt x.must)), .lit (.string (txt x.may))] := by
      injection hb1
    have hx5 : xs.length = 6 := by
      have := congrArg List.length hag
      simpa using this
    have hj : ∀ (j : Nat) (f : Field) (d : DataW Unit), fs[j]? = some f → f.offset = j → P.cellsOf f.type = 1 → (xs.map (·.1))[j]? = some d → j < 6 → ∃ v q, ce[j]? = some v ∧ DataW.trod (fun _ => ()) P w 0 (fun _ => true) false n f.type [v] = some (d, q) := fun j f d h1 h2 h3 h4 h5 => by
      have h6 := hfl j f h1
      rw [h2, h3] at h6
      rw [List.getElem?_map] at h4
      obtain ⟨y, h7, h8⟩ := Option.map_eq_some_iff.1 h4
      rw [h7] at h6
      have hjl : j < ce.length := by omega
      refine ⟨ce[j], y.2, List.getElem?_eq_getElem hjl, ?_⟩
      rw [List.drop_eq_getElem_cons hjl] at h6
      rw [← h8]
      exact h6
    rw [hag] at hj
    have str : ∀ {T : TypeId} {v : Value} {l : List UInt8} {q : List MemPlace}, P.underlying T = some .string → DataW.trod (fun _ => ()) P w 0 (fun _ => true) false n T [v] = some (.lit (.string l), q) → v = .string (baO l) := fun hT h => by
      obtain ⟨s, h1, h2, _⟩ := DataW.trod_string hT h
      injection h1 with h1
      injection h2 with h2
      injection h2 with h2
      injection h2 with h2
      rw [h1, eq_baO h2.symm]
    obtain ⟨v0, q0, c0, r0⟩ := hj 0 f0 _ k0 o0 (by rw [t0]; exact cs1) rfl (by omega)
    obtain ⟨v1, q1, c1, r1⟩ := hj 1 f1 _ k1 o1 (by rw [t1]; exact cs1) rfl (by omega)
    obtain ⟨v2, q2, c2, r2⟩ := hj 2 f2 _ k2 o2 (by rw [t2]; exact cs1) rfl (by omega)
    obtain ⟨v3, q3, c3, r3⟩ := hj 3 f3 _ k3 o3 (by rw [t3]; exact ci1) rfl (by omega)
    obtain ⟨v4, q4, c4, r4⟩ := hj 4 f4 _ k4 o4 (by rw [t4]; exact cs1) rfl (by omega)
    obtain ⟨v5, q5, c5, r5⟩ := hj 5 f5 _ k5 o5 (by rw [t5]; exact cs1) rfl (by omega)
    have e0 := str (by rw [t0]; exact hs) r0
    have e1 := str (by rw [t1]; exact hs) r1
    have e2 := str (by rw [t2]; exact hs) r2
    obtain ⟨z, z1, z2, _⟩ := DataW.trod_int (by rw [t3]; exact hi) r3
    have e4 := str (by rw [t4]; exact hs) r4
    have e5 := str (by rw [t5]; exact hs) r5
    injection z1 with z1
    injection z2 with z2
    injection z2 with z2
    injection z2 with _ z2
    refine ⟨?_, ?_, ?_, ?_, ?_, ?_⟩
    · rw [hcc 0 (by omega), c0, e0]
    · rw [hcc 1 (by omega), c1, e1]
    · rw [hcc 2 (by omega), c2, e2]
    · rw [hcc 3 (by omega), c3, z1, ← z2]
    · rw [hcc 4 (by omega), c4, e4]
    · rw [hcc 5 (by omega), c5, e5]
  obtain ⟨R, o, sp⟩ := a
  have h0 := (hrow 0 _ rfl).1
  have hsp0 := cell_spot h0
  have hR := cell_size h0
  obtain rfl : sp = none := by
    simpa [Addr.add] using hsp0
  have hv := World.var?_cell hn hvar 0
  have hcs' : cs = #[.slice (some ⟨R, o, none⟩) 10 10] := by
    apply Array.ext'
    simpa using hcs
  rw [hcs'] at hv
  refine ⟨R, o, ?_, ?_, hv, ?_⟩
  · exact cell_size hv
  · simpa [Addr.add] using hR
  · intro i x hx
    obtain ⟨h0, h1, h2, h3, h4, h5⟩ := hrow i x hx
    rw [addr_add7] at h0 h1 h2 h3 h4 h5
    simp only [Addr.add_lit] at h0 h1 h2 h3 h4 h5
    exact ⟨h0, h1, h2, h3, h4, h5⟩
end Go.Proofs.YtllmffmmfpecaaaDoor
