/- From acts that came in to what they hold. -/
import Derived.Test.YtbibbdkijgaoeaaWalkR
import Derived.OpenShut
import Derived.ProofKit
import Derived.Deep.Slices
import Derived.Deep.Fields
set_option linter.unusedVariables false
set_option linter.unusedSimpArgs false
namespace Go.Proofs.Ytbibbdkijgaoeaa
open Go.ChangeShapes Go.WideShapes Go.ChangeAt Go.RowKit Go.Deep

theorem row_of {w : World} {a : Option Addr} {len cap : Nat} {zs : List Int}
    (h : (a = none ∧ len = 0 ∧ cap = 0 ∧ zs = []) ∨ ∃ x, a = some x ∧ len ≤ cap ∧ cap ≤ maxLen ∧ zs.length = cap ∧ (∀ i, i < zs.length → w.cell? (x.add i) = some (.int .i64 (zs.getD i 0))) ∧ ∀ n ∈ zs, (Lit.int .i64 n).wf = true) :
    ∃ xs, len = xs.length ∧ Row w a xs ∧ xs.length ≤ maxLen := by
  rcases h with ⟨rfl, rfl, rfl, rfl⟩ | ⟨x, rfl, hl, hm, hz, hc, hw⟩
  · exact ⟨[], rfl, fun i hi => by simp at hi, by simp⟩
  · have hlen : (zs.take len).length = len := by simp; omega
    refine ⟨zs.take len, hlen.symm, ?_, by omega⟩
    intro i hi
    have hi' : i < zs.length := by omega
    obtain ⟨b, off, rfl, hc'⟩ := ints_at hc (by omega)
    have := hc' i hi'
    refine ⟨b, off, rfl, World.block_lt_of_cell? w _ this, ?_⟩
    rw [this, List.getElem_take, List.getD_eq_getElem?_getD, List.getElem?_eq_getElem hi']; rfl

theorem Try.cells3 : Try.prog.cellsOf 3 = 1 := by kernel_rfl
theorem Try.cells32 : Try.prog.cellsOf 32 = 1 := by kernel_rfl
theorem Try.cells44 : Try.prog.cellsOf 44 = 5 := by kernel_rfl

theorem slice_row {H : Type} {enc : TypeId × Value → H} {W : World} {fuel : Nat} {cs : List Value} {y : DataW H × List MemPlace} (hf : DataW.trod enc Try.prog W 0 (fun _ => true) true fuel 32 cs = some y) :
    ∃ a xs cap, cs = [.slice a xs.length cap] ∧ Row W a xs ∧ xs.length ≤ maxLen ∧ (a = none → cap = 0) := by
  rcases open_ints Try.underlying32 Try.underlying3 Try.cells3 hf with ⟨hcs, _⟩ | ⟨x, l, c, zs, hcs, _, hl, hm, hz, _, hcell, hwz⟩
  · exact ⟨none, [], 0, hcs, fun i hi => by simp at hi, by simp, fun _ => rfl⟩
  · obtain ⟨xs, e, hr, hx⟩ := row_of (w := W) (a := some x) (len := l) (cap := c) (zs := zs) (.inr ⟨_, rfl, hl, hm, by simpa using hz, hcell, hwz⟩)
    subst e
    exact ⟨some x, xs, c, hcs, hr, hx, by simp⟩

theorem act_row {H : Type} {enc : TypeId × Value → H} {W : World} {n : Nat} {cs : List Value} {x : DataW H × List MemPlace} (h : DataW.trod enc Try.prog W 0 (fun _ => true) true n 44 cs = some x) (hlen : cs.length = 5) :
    ∃ (t : ActD) (ai : Option Addr) (ci : Nat), cs = [.int .i64 t.d, .slice ai t.c.length ci, .int .i64 t.p, .int .i64 t.i, .int .i64 t.j] ∧ Row W ai t.c ∧ t.c.length ≤ maxLen ∧ (ai = none → ci = 0) ∧ (Lit.int .i64 t.p).wf = true := by
  obtain ⟨xs, k, hk, hxy, _, hxl, hf⟩ := DataW.trod_struct Try.underlying44 h
  match xs, hxl, cs, hlen with
  | [y0, y1, y2, y3, y4], _, [v0, v1, v2, v3, v4], _ =>
    have g0 := hf 0 _ rfl
    have g1 := hf 1 _ rfl
    have g2 := hf 2 _ rfl
    have g3 := hf 3 _ rfl
    have g4 := hf 4 _ rfl
    simp [Try.cells3, Try.cells32] at g0 g1 g2 g3 g4
    obtain ⟨d, e0, -, _⟩ := DataW.trod_int Try.underlying3 g0
    obtain ⟨ai, c, ci, e1, hr, hl, hn⟩ := slice_row g1
    obtain ⟨p, e2, -, wp⟩ := DataW.trod_int Try.underlying3 g2
    obtain ⟨i, e3, -, _⟩ := DataW.trod_int Try.underlying3 g3
    obtain ⟨j, e4, -, _⟩ := DataW.trod_int Try.underlying3 g4
    simp at e0 e1 e2 e3 e4
    subst e0 e1 e2 e3 e4
    exact ⟨⟨d, c, p, i, j⟩, ai, ci, rfl, hr, hl, hn, wp⟩

structure ActAt' (w : World) (a : Addr) (k : Nat) (x : ActD) (ai : Option Addr) (ci : Nat) : Prop where
  c0 : w.cell? (a.add (k * 5)) = some (.int .i64 x.d)
  c1 : w.cell? (a.add (k * 5 + 1)) = some (.slice ai x.c.length ci)
  c2 : w.cell? (a.add (k * 5 + 2)) = some (.int .i64 x.p)
  c3 : w.cell? (a.add (k * 5 + 3)) = some (.int .i64 x.i)
  c4 : w.cell? (a.add (k * 5 + 4)) = some (.int .i64 x.j)
  row : Row w ai x.c
  len : x.c.length ≤ maxLen
  nil : ai = none → ci = 0
  wp : (Lit.int .i64 x.p).wf = true

theorem acts_open {H : Type} {enc : TypeId × Value → H} {W : World} {base : Nat} {v : Value} {d : DataW H} {p : List MemPlace} (hv : Value.okWide Try.prog W .any base 22 v) (h : DataW.Trod enc Try.prog W 0 (fun _ => true) true 22 v d p) :
    ∃ a l cap, v = .slice a l.length cap ∧ Acts W a l ∧ l.length ≤ maxLen := by
  obtain ⟨a0, len0, cap0, rfl⟩ := okWide_slice Try.underlying22 hv
  obtain ⟨fuel, hf⟩ := h
  rcases open_slice Try.underlying22 hf with ⟨hcs, _⟩ | ⟨a, len, cap, m, n, D, Pl, hcs, _, hl, hm, hmm, _, hx⟩
  · simp [Value.cells] at hcs
    obtain ⟨rfl, rfl, rfl⟩ := hcs
    exact ⟨none, [], 0, rfl, fun k hk => by simp at hk, by simp⟩
  · simp [Value.cells] at hcs
    obtain ⟨rfl, rfl, rfl⟩ := hcs
    have each : ∀ i, i < len0 → ∃ q : ActD × Option Addr × Nat, ActAt' W a i q.1 q.2.1 q.2.2 := by
      intro i hi
      obtain ⟨cs', h1, h2⟩ := hx i (by rw [hmm]; simp; omega)
      rw [Try.cells44] at h1
      obtain ⟨_, hlen, hcell⟩ := World.cells?_some h1
      obtain ⟨t, ai, ci, rfl, hr, hl', hn, hw⟩ := act_row h2 hlen
      refine ⟨(t, ai, ci), ?_, ?_, ?_, ?_, ?_, hr, hl', hn, hw⟩
      · have := hcell 0 (by omega); rw [add_add] at this; simpa using this
      · have := hcell 1 (by omega); rw [add_add] at this; simpa using this
      · have := hcell 2 (by omega); rw [add_add] at this; simpa using this
      · have := hcell 3 (by omega); rw [add_add] at this; simpa using this
      · have := hcell 4 (by omega); rw [add_add] at this; simpa using this
    have inh : Inhabited (ActD × Option Addr × Nat) := ⟨(⟨0, [], 0, 0, 0⟩, none, 0)⟩
    obtain ⟨q, hq⟩ := choose_lt each
    have hlen : ((List.range len0).map fun i => (q i).1).length = len0 := by simp
    refine ⟨some a, (List.range len0).map fun i => (q i).1, cap0, by rw [hlen], fun k hk => ?_, by omega⟩
    have hk' : k < len0 := by omega
    obtain ⟨b, off, spot⟩ := a
    have hspot : spot = none := by simpa [Addr.add] using World.cell?_spot (hq 0 (by omega)).c0
    subst hspot
    have H := hq k hk'
    have ek : ((List.range len0).map fun i => (q i).1)[k] = (q k).1 := by simp
    refine ⟨b, off, (q k).2.1, (q k).2.2, rfl, ?_, ?_⟩
    · have := H.c0; rw [Addr.add_lit] at this; exact World.block_lt_of_cell? W _ this
    · rw [ek]
      have h0 := H.c0
      have h1 := H.c1
      have h2 := H.c2
      have h3 := H.c3
      have h4 := H.c4
      rw [Addr.add_lit] at h0 h1 h2 h3 h4
      simp only [← Nat.add_assoc] at h1 h2 h3 h4
      exact ⟨h0, h1, h2, h3, h4, H.row, H.len, H.nil, H.wp⟩

end Go.Proofs.Ytbibbdkijgaoeaa
