/- From literals and a number that came in to what they hold. -/
import Derived.Test.YtbilhiklfficoaaXf
import Derived.Lib.SmallJoins
set_option linter.unusedVariables false
set_option linter.unusedSimpArgs false
namespace Go.Proofs.Ytbilhiklfficoaa
open Go.ChangeShapes Go.WideShapes Go.ChangeAt Go.RowKit Go.Deep Go.Joins

theorem ints_row {H : Type} {enc : TypeId × Value → H} {W : World} {n : Nat} {v : Value} {x : DataW H × List MemPlace} (hf : DataW.trod enc Try.prog W 0 (fun _ => true) true n 24 [v] = some x) :
    ∃ (a : Option Addr) (l : List Int) (cap : Nat), v = .slice a l.length cap ∧ Row W a l ∧ l.length ≤ maxLen ∧ (a = none → l = []) := by
  rcases open_slice Try.underlying24 hf with ⟨hcs, _⟩ | ⟨a, len0, cap0, m, n, D, Pl, hcs, _, hl, hm, hmm, _, hx⟩
  · simp at hcs
    subst hcs
    exact ⟨none, [], 0, rfl, fun k hk => by simp at hk, by simp, fun _ => rfl⟩
  · simp at hcs
    subst hcs
    have each : ∀ i, i < len0 → ∃ q : Int, W.cell? (a.add i) = some (.int .i64 q) ∧ inI64 q := by
      intro i hi
      obtain ⟨cs', h1, h2⟩ := hx i (by rw [hmm]; simp; omega)
      rw [Try.cells3] at h1
      obtain ⟨_, hlen, hcell⟩ := World.cells?_some h1
      match cs', hlen with
      | [y], _ =>
        obtain ⟨x, e0, -, wx⟩ := DataW.trod_int Try.underlying3 h2
        simp at e0
        subst e0
        refine ⟨x, ?_, i64_of_wf wx⟩
        have := hcell 0 (by omega); rw [add_add] at this; simpa using this
    obtain ⟨q, hq⟩ := choose_lt each
    have hlen : ((List.range len0).map fun i => q i).length = len0 := by simp
    refine ⟨some a, (List.range len0).map fun i => q i, cap0, by rw [hlen], fun k hk => ?_, by omega, fun h => by cases h⟩
    have hk' : k < len0 := by omega
    obtain ⟨b, off, spot⟩ := a
    have hspot : spot = none := by simpa [Addr.add] using World.cell?_spot (hq 0 (by omega)).1
    subst hspot
    have H := (hq k hk').1
    have ek : ((List.range len0).map fun i => q i)[k] = q k := by simp
    rw [Addr.add_lit] at H
    exact ⟨b, off, rfl, World.block_lt_of_cell? W _ H, by rw [ek]; exact H⟩

theorem Try.cells38 : Try.prog.cellsOf 38 = 2 := by kernel_rfl
theorem asked_open {H : Type} {enc : TypeId × Value → H} {W : World} {base : Nat} {v : Value} {d : DataW H} {p : List MemPlace} (hv : Value.okWide Try.prog W .any base 38 v) (h : DataW.Trod enc Try.prog W 0 (fun _ => true) true 38 v d p) :
    ∃ (a : Option Addr) (l : List Int) (cap : Nat) (K : Int), v = .agg #[.slice a l.length cap, .int .i64 K] ∧ Row W a l ∧ l.length ≤ maxLen ∧ (a = none → l = []) ∧ inI64 K := by
  obtain ⟨c0, c1, y0, y1, f, rfl, -, -, hy0, hy1⟩ := open_agg2 Try.underlying38 (by kernel_rfl) Try.cells38 hv h
  obtain ⟨a, l, cap, e0, h1, h2, h3⟩ := ints_row hy0
  obtain ⟨K, e1, -, w1⟩ := DataW.trod_int Try.underlying3 hy1
  simp at e1
  subst e0 e1
  exact ⟨a, l, cap, K, rfl, h1, h2, h3, i64_of_wf w1⟩
end Go.Proofs.Ytbilhiklfficoaa
