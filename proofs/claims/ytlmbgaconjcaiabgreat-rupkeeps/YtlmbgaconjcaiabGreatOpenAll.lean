/- Joined: From data that came in to the numbers, bytes and clauses that they hold. From a formula and clauses that came in to what they hold. -/
import Derived.Test.YtlmbgaconjcaiabGreatWalkP
import Derived.Test.YtlmbgaconjcaiabGreatWalkL
import Derived.OpenShut
import Derived.ProofKit
import Derived.Lib.SmallJoins
import Derived.Deep.Matrix
import Derived.Test.YtlmbgaconjcaiabGreatHd
import Derived.Deep.Slices
import Derived.Deep.Fields
set_option linter.unusedVariables false
set_option linter.unusedSimpArgs false
namespace Go.Proofs.YtlmbgaconjcaiabGreat
open Go.ChangeShapes Go.WideShapes Go.ChangeAt Go.RowKit Go.Joins Go.Deep

theorem row_of {w : World} {a : Option Addr} {len cap : Nat} {zs : List Int}
    (h : (a = none ∧ len = 0 ∧ cap = 0 ∧ zs = []) ∨ ∃ x, a = some x ∧ len ≤ cap ∧ cap ≤ maxLen ∧ zs.length = cap ∧ (∀ i, i < zs.length → w.cell? (x.add i) = some (.int .i64 (zs.getD i 0))) ∧ ∀ n ∈ zs, (Lit.int .i64 n).wf = true) :
    ∃ xs, len = xs.length ∧ Row w a xs ∧ xs.length ≤ maxLen := by
  rcases h with ⟨rfl, rfl, rfl, rfl⟩ | ⟨x, rfl, hl, hm, hz, hc, hw⟩
  · exact ⟨[], rfl, fun i hi => by simp at hi, by simp⟩
  · have hlen : (zs.take len).length = len := by simp; omega
    refine ⟨zs.take len, hlen.symm, ?_, by omega⟩
    intro i hi
    have hi' : i < zs.length := by omega
    obtain ⟨b, off, rfl, hc'⟩ := ints_at hc (by omega)
    have := hc' i hi'
    refine ⟨b, off, rfl, World.block_lt_of_cell? w _ this, ?_⟩
    rw [this, List.getElem_take, List.getD_eq_getElem?_getD, List.getElem?_eq_getElem hi']; rfl

theorem Tryz.cells3 : Tryz.prog.cellsOf 3 = 1 := by kernel_rfl

theorem Tryz.cells25 : Tryz.prog.cellsOf 25 = 1 := by kernel_rfl

set_option maxRecDepth 100000 in
theorem slice_row {H : Type} {enc : TypeId × Value → H} {W : World} {fuel : Nat} {cs : List Value} {y : DataW H × List MemPlace} (hf : DataW.trod enc Tryz.prog W 0 (fun _ => true) true fuel 25 cs = some y) :
    ∃ a xs cap, cs = [.slice a xs.length cap] ∧ Row W a xs ∧ xs.length ≤ maxLen := by
  rcases open_ints Tryz.underlying25 Tryz.underlying3 Tryz.cells3 hf with ⟨hcs, _⟩ | ⟨x, l, c, zs, hcs, _, hl, hm, hz, _, hcell, hwz⟩
  · exact ⟨none, [], 0, hcs, fun i hi => by simp at hi, by simp⟩
  · obtain ⟨xs, e, hr, hx⟩ := row_of (w := W) (a := some x) (len := l) (cap := c) (zs := zs) (.inr ⟨_, rfl, hl, hm, by simpa using hz, hcell, hwz⟩)
    subst e
    exact ⟨some x, xs, c, hcs, hr, hx⟩

set_option maxRecDepth 100000 in
theorem slice_open {H : Type} {enc : TypeId × Value → H} {W : World} {base : Nat} {v : Value} {d : DataW H} {p : List MemPlace} (hv : Value.okWide Tryz.prog W .any base 25 v) (h : DataW.Trod enc Tryz.prog W 0 (fun _ => true) true 25 v d p) :
    ∃ a xs cap, v = .slice a xs.length cap ∧ Row W a xs ∧ xs.length ≤ maxLen := by
  obtain ⟨a0, len0, cap0, rfl⟩ := okWide_slice Tryz.underlying25 hv
  obtain ⟨fuel, hf⟩ := h
  obtain ⟨a, xs, cap, hcs, hr, hl⟩ := slice_row hf
  simp [Value.cells] at hcs
  obtain ⟨rfl, rfl, rfl⟩ := hcs
  exact ⟨_, _, _, rfl, hr, hl⟩

theorem Tryz.cells24 : Tryz.prog.cellsOf 24 = 2 := by kernel_rfl

set_option maxRecDepth 100000 in
theorem grid_row {H : Type} {enc : TypeId × Value → H} {W : World} {fuel : Nat} {cs : List Value} {y : DataW H × List MemPlace} (hf : DataW.trod enc Tryz.prog W 0 (fun _ => true) true fuel 22 cs = some y) :
    ∃ a css cap, cs = [.slice a css.length cap] ∧ Grid W a css ∧ css.length ≤ maxLen := by
  rcases open_int_rows Tryz.underlying22 Tryz.underlying25 Tryz.underlying3 Tryz.cells25 Tryz.cells3 hf with ⟨hcs, _⟩ | ⟨a, len, cap, A, L, C, Z, hcs, _, hl, hm, _, hall⟩
  · exact ⟨none, [], 0, hcs, fun i hi => by simp at hi, by simp⟩
  · have hlen : ((List.range len).map fun r => (Z r).take (L r)).length = len := by simp
    refine ⟨some a, (List.range len).map fun r => (Z r).take (L r), cap, by rw [hlen]; exact hcs, ?_, by omega⟩
    intro i hi
    have hi' : i < len := by omega
    have hic : i < cap := by omega
    obtain ⟨hc0, -⟩ := hall 0 (by omega)
    obtain ⟨b, off, spot⟩ := a
    have hspot : spot = none := by simpa [Addr.add] using World.cell?_spot hc0
    subst hspot
    obtain ⟨hc, h1, h2, h3, h4, h5, h6⟩ := hall i hic
    rw [add_plain] at hc
    have ei : ((List.range len).map fun r => (Z r).take (L r))[i] = (Z i).take (L i) := by simp
    obtain ⟨xs, e, hr, hx⟩ : ∃ xs, L i = xs.length ∧ Row W (A i) xs ∧ xs = (Z i).take (L i) := by
      have hlt : ((Z i).take (L i)).length = L i := by simp; omega
      refine ⟨_, hlt.symm, ?_, rfl⟩
      intro j hj
      cases hA : A i with
      | none => have := h5 hA; omega
      | some a' =>
        obtain ⟨-, hcell⟩ := h6 a' hA
        have hc' : ∀ c, c < (Z i).length → W.cell? (a'.add c) = some (.int .i64 ((Z i).getD c 0)) := fun c h => hcell c (by omega)
        obtain ⟨b', off', rfl, hc''⟩ := ints_at hc' (by omega)
        have hj' : j < (Z i).length := by omega
        have := hc'' j hj'
        refine ⟨b', off', rfl, World.block_lt_of_cell? W _ this, ?_⟩
        rw [this, List.getElem_take, List.getD_eq_getElem?_getD, List.getElem?_eq_getElem hj']; rfl
    refine ⟨b, off, A i, C i, rfl, World.block_lt_of_cell? W _ hc, ?_, ?_, ?_⟩
    · rw [ei, ← hx, ← e]; exact hc
    · rw [ei, ← hx]; exact hr
    · rw [ei, ← hx, ← e]; omega

set_option maxRecDepth 100000 in
theorem cnf_open {H : Type} {enc : TypeId × Value → H} {W : World} {base : Nat} {v : Value} {d : DataW H} {p : List MemPlace} (hv : Value.okWide Tryz.prog W .any base 24 v) (h : DataW.Trod enc Tryz.prog W 0 (fun _ => true) true 24 v d p) :
    ∃ (n : Int) (a : Option Addr) (css : List (List Int)) (cap : Nat), v = .agg #[.int .i64 n, .slice a css.length cap] ∧ Grid W a css ∧ css.length ≤ maxLen := by
  obtain ⟨c0, c1, y0, y1, f, rfl, -, -, hy0, hy1⟩ := open_agg2 Tryz.underlying24 (by kernel_rfl) Tryz.cells24 hv h
  obtain ⟨n, e0, -, wn⟩ := DataW.trod_int Tryz.underlying3 hy0
  obtain ⟨a, css, cap, e1, hg, hl⟩ := grid_row hy1
  simp at e0 e1
  subst e0 e1
  exact ⟨n, a, css, cap, rfl, hg, hl⟩

theorem Tryz.cells5 : Tryz.prog.cellsOf 5 = 1 := by kernel_rfl

end Go.Proofs.YtlmbgaconjcaiabGreat

namespace Go.Proofs.YtlmbgaconjcaiabGreat
open Go.ChangeShapes Go.WideShapes Go.ChangeAt Go.RowKit Go.Joins Go.Deep

theorem slice_rowC {H : Type} {enc : TypeId × Value → H} {W : World} {fuel : Nat} {cs : List Value} {y : DataW H × List MemPlace} (hf : DataW.trod enc Tryz.prog W 0 (fun _ => true) true fuel 25 cs = some y) :
    ∃ a xs cap, cs = [.slice a xs.length cap] ∧ Row W a xs ∧ xs.length ≤ maxLen ∧ (a = none → cap = 0) := by
  rcases open_ints Tryz.underlying25 Tryz.underlying3 Tryz.cells3 hf with ⟨hcs, _⟩ | ⟨x, l, c, zs, hcs, _, hl, hm, hz, _, hcell, hwz⟩
  · exact ⟨none, [], 0, hcs, fun i hi => by simp at hi, by simp, fun _ => rfl⟩
  · obtain ⟨xs, e, hr, hx⟩ := row_of (w := W) (a := some x) (len := l) (cap := c) (zs := zs) (.inr ⟨_, rfl, hl, hm, by simpa using hz, hcell, hwz⟩)
    subst e
    exact ⟨some x, xs, c, hcs, hr, hx, by simp⟩

set_option maxRecDepth 100000 in
theorem grid_rowC {H : Type} {enc : TypeId × Value → H} {W : World} {fuel : Nat} {cs : List Value} {y : DataW H × List MemPlace} (hf : DataW.trod enc Tryz.prog W 0 (fun _ => true) true fuel 22 cs = some y) :
    ∃ a css cap, cs = [.slice a css.length cap] ∧ GridC W a css ∧ css.length ≤ maxLen ∧ (a = none → cap = 0) := by
  rcases open_int_rows Tryz.underlying22 Tryz.underlying25 Tryz.underlying3 Tryz.cells25 Tryz.cells3 hf with ⟨hcs, _⟩ | ⟨a, len, cap, A, L, C, Z, hcs, _, hl, hm, _, hall⟩
  · exact ⟨none, [], 0, hcs, fun i hi => by simp at hi, by simp, fun _ => rfl⟩
  · have hlen : ((List.range len).map fun r => (Z r).take (L r)).length = len := by simp
    refine ⟨some a, (List.range len).map fun r => (Z r).take (L r), cap, by rw [hlen]; exact hcs, ?_, by omega, by simp⟩
    intro i hi
    have hi' : i < len := by omega
    have hic : i < cap := by omega
    obtain ⟨hc0, -⟩ := hall 0 (by omega)
    obtain ⟨b, off, spot⟩ := a
    have hspot : spot = none := by simpa [Addr.add] using World.cell?_spot hc0
    subst hspot
    obtain ⟨hc, h1, h2, h3, h4, h5, h6⟩ := hall i hic
    rw [add_plain] at hc
    have ei : ((List.range len).map fun r => (Z r).take (L r))[i] = (Z i).take (L i) := by simp
    obtain ⟨xs, e, hr, hx⟩ : ∃ xs, L i = xs.length ∧ Row W (A i) xs ∧ xs = (Z i).take (L i) := by
      have hlt : ((Z i).take (L i)).length = L i := by simp; omega
      refine ⟨_, hlt.symm, ?_, rfl⟩
      intro j hj
      cases hA : A i with
      | none => have := h5 hA; omega
      | some a' =>
        obtain ⟨-, hcell⟩ := h6 a' hA
        have hc' : ∀ c, c < (Z i).length → W.cell? (a'.add c) = some (.int .i64 ((Z i).getD c 0)) := fun c h => hcell c (by omega)
        obtain ⟨b', off', rfl, hc''⟩ := ints_at hc' (by omega)
        have hj' : j < (Z i).length := by omega
        have := hc'' j hj'
        refine ⟨b', off', rfl, World.block_lt_of_cell? W _ this, ?_⟩
        rw [this, List.getElem_take, List.getD_eq_getElem?_getD, List.getElem?_eq_getElem hj']; rfl
    refine ⟨b, off, A i, C i, rfl, World.block_lt_of_cell? W _ hc, ?_, ?_, ?_, h5⟩
    · rw [ei, ← hx, ← e]; exact hc
    · rw [ei, ← hx]; exact hr
    · rw [ei, ← hx, ← e]; omega

set_option maxRecDepth 100000 in
theorem cnf_openC {H : Type} {enc : TypeId × Value → H} {W : World} {base : Nat} {v : Value} {d : DataW H} {p : List MemPlace} (hv : Value.okWide Tryz.prog W .any base 24 v) (h : DataW.Trod enc Tryz.prog W 0 (fun _ => true) true 24 v d p) :
    ∃ (n : Int) (a : Option Addr) (css : List (List Int)) (cap : Nat), v = .agg #[.int .i64 n, .slice a css.length cap] ∧ GridC W a css ∧ css.length ≤ maxLen ∧ (a = none → cap = 0) := by
  obtain ⟨c0, c1, y0, y1, f, rfl, -, -, hy0, hy1⟩ := open_agg2 Tryz.underlying24 (by kernel_rfl) Tryz.cells24 hv h
  obtain ⟨n, e0, -, wn⟩ := DataW.trod_int Tryz.underlying3 hy0
  obtain ⟨a, css, cap, e1, hg, hl, hn⟩ := grid_rowC hy1
  simp at e0 e1
  subst e0 e1
  exact ⟨n, a, css, cap, rfl, hg, hl, hn⟩

set_option maxRecDepth 100000 in
theorem slice_openC {H : Type} {enc : TypeId × Value → H} {W : World} {base : Nat} {v : Value} {d : DataW H} {p : List MemPlace} (hv : Value.okWide Tryz.prog W .any base 25 v) (h : DataW.Trod enc Tryz.prog W 0 (fun _ => true) true 25 v d p) :
    ∃ a xs cap, v = .slice a xs.length cap ∧ Row W a xs ∧ xs.length ≤ maxLen ∧ (a = none → cap = 0) := by
  obtain ⟨a0, len0, cap0, rfl⟩ := okWide_slice Tryz.underlying25 hv
  obtain ⟨fuel, hf⟩ := h
  obtain ⟨a, xs, cap, hcs, hr, hl, hn⟩ := slice_rowC hf
  simp [Value.cells] at hcs
  obtain ⟨rfl, rfl, rfl⟩ := hcs
  exact ⟨_, _, _, rfl, hr, hl, hn⟩
end Go.Proofs.YtlmbgaconjcaiabGreat
