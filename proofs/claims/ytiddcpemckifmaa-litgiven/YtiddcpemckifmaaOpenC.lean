/- From a formula that came in to its clauses. -/
import Derived.Test.YtiddcpemckifmaaOpenB
import Derived.Test.YtiddcpemckifmaaWalkL
import Derived.Deep.Matrix
set_option linter.unusedVariables false
set_option linter.unusedSimpArgs false
namespace Go.Proofs.Ytiddcpemckifmaa
open Go.ChangeShapes Go.WideShapes Go.ChangeAt Go.RowKit Go.Joins Go.Deep

theorem Try.cells36 : Try.prog.cellsOf 36 = 2 := by kernel_rfl

theorem grid_row {H : Type} {enc : TypeId × Value → H} {W : World} {fuel : Nat} {cs : List Value} {y : DataW H × List MemPlace} (hf : DataW.trod enc Try.prog W 0 (fun _ => true) true fuel 34 cs = some y) :
    ∃ a css cap, cs = [.slice a css.length cap] ∧ Grid W a css ∧ css.length ≤ maxLen := by
  rcases open_int_rows Try.underlying34 Try.underlying22 Try.underlying3 Try.cells22 Try.cells3 hf with ⟨hcs, _⟩ | ⟨a, len, cap, A, L, C, Z, hcs, _, hl, hm, _, hall⟩
  · exact ⟨none, [], 0, hcs, fun i hi => by simp at hi, by simp⟩
  · have hlen : ((List.range len).map fun r => (Z r).take (L r)).length = len := by simp
    refine ⟨some a, (List.range len).map fun r => (Z r).take (L r), cap, by rw [hlen]; exact hcs, ?_, by omega⟩
    intro i hi
    have hi' : i < len := by omega
    have hic : i < cap := by omega
    obtain ⟨hc0, -⟩ := hall 0 (by omega)
    obtain ⟨b, off, spot⟩ := a
    have hspot : spot = none := by simpa [Addr.add] using World.cell?_spot hc0
    subst hspot
    obtain ⟨hc, h1, h2, h3, h4, h5, h6⟩ := hall i hic
    rw [add_plain] at hc
    have ei : ((List.range len).map fun r => (Z r).take (L r))[i] = (Z i).take (L i) := by simp
    obtain ⟨xs, e, hr, hx⟩ : ∃ xs, L i = xs.length ∧ Row W (A i) xs ∧ xs = (Z i).take (L i) := by
      have hlt : ((Z i).take (L i)).length = L i := by simp; omega
      refine ⟨_, hlt.symm, ?_, rfl⟩
      intro j hj
      cases hA : A i with
      | none => have := h5 hA; omega
      | some a' =>
        obtain ⟨-, hcell⟩ := h6 a' hA
        have hc' : ∀ c, c < (Z i).length → W.cell? (a'.add c) = some (.int .i64 ((Z i).getD c 0)) := fun c h => hcell c (by omega)
        obtain ⟨b', off', rfl, hc''⟩ := ints_at hc' (by omega)
        have hj' : j < (Z i).length := by omega
        have := hc'' j hj'
        refine ⟨b', off', rfl, World.block_lt_of_cell? W _ this, ?_⟩
        rw [this, List.getElem_take, List.getD_eq_getElem?_getD, List.getElem?_eq_getElem hj']; rfl
    refine ⟨b, off, A i, C i, rfl, World.block_lt_of_cell? W _ hc, ?_, ?_, ?_⟩
    · rw [ei, ← hx, ← e]; exact hc
    · rw [ei, ← hx]; exact hr
    · rw [ei, ← hx, ← e]; omega

theorem cnf_open {H : Type} {enc : TypeId × Value → H} {W : World} {base : Nat} {v : Value} {d : DataW H} {p : List MemPlace} (hv : Value.okWide Try.prog W .any base 36 v) (h : DataW.Trod enc Try.prog W 0 (fun _ => true) true 36 v d p) :
    ∃ (n : Int) (a : Option Addr) (css : List (List Int)) (cap : Nat), v = .agg #[.int .i64 n, .slice a css.length cap] ∧ Grid W a css ∧ css.length ≤ maxLen := by
  obtain ⟨c0, c1, y0, y1, f, rfl, -, -, hy0, hy1⟩ := open_agg2 Try.underlying36 (by kernel_rfl) Try.cells36 hv h
  obtain ⟨n, e0, -, wn⟩ := DataW.trod_int Try.underlying3 hy0
  obtain ⟨a, css, cap, e1, hg, hl⟩ := grid_row hy1
  simp at e0 e1
  subst e0 e1
  exact ⟨n, a, css, cap, rfl, hg, hl⟩

end Go.Proofs.Ytiddcpemckifmaa
