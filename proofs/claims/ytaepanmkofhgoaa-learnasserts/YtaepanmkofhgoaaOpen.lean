/- From data that came in to the trails and clauses that they hold. -/
import Derived.Test.YtaepanmkofhgoaaLawC
import Derived.OpenShut
import Derived.ProofKit
import Derived.Deep.Slices
import Derived.Deep.Fields
import Derived.Lib.SmallJoins
set_option linter.unusedVariables false
set_option linter.unusedSimpArgs false
namespace Go.Proofs.Ytaepanmkofhgoaa
open Go.ChangeShapes Go.WideShapes Go.ChangeAt Go.RowKit Go.Deep

theorem wf_i64 {n : Int} (h : (Lit.int .i64 n).wf = true) : -9223372036854775808 ≤ n ∧ n ≤ 9223372036854775807 := by
  simp only [Lit.wf, Bool.and_eq_true, decide_eq_true_eq] at h
  have h1 : IntKind.i64.min = -9223372036854775808 := rfl
  have h2 : IntKind.i64.max = 9223372036854775807 := rfl
  rw [h1, h2] at h
  exact h

theorem Try.cells3 : Try.prog.cellsOf 3 = 1 := by kernel_rfl
theorem Try.cells23 : Try.prog.cellsOf 23 = 1 := by kernel_rfl
theorem Try.cells38 : Try.prog.cellsOf 38 = 3 := by kernel_rfl

theorem slice_row {H : Type} {enc : TypeId × Value → H} {W : World} {fuel : Nat} {cs : List Value} {y : DataW H × List MemPlace} (hf : DataW.trod enc Try.prog W 0 (fun _ => true) true fuel 23 cs = some y) :
    ∃ a xs cap, cs = [.slice a xs.length cap] ∧ Row W a xs ∧ xs.length ≤ maxLen ∧ Fit xs := by
  rcases open_ints Try.underlying23 Try.underlying3 Try.cells3 hf with ⟨hcs, _⟩ | ⟨x, l, c, zs, hcs, _, hl, hm, hz, _, hcell, hwz⟩
  · exact ⟨none, [], 0, hcs, fun i hi => by simp at hi, by simp, fun x hx => by simp at hx⟩
  · have hz' : zs.length = c := by simpa using hz
    have hlen : (zs.take l).length = l := by simp; omega
    refine ⟨some x, zs.take l, c, by rw [hlen]; exact hcs, ?_, by omega, fun n hn => wf_i64 (hwz n (List.mem_of_mem_take hn))⟩
    intro i hi
    have hi' : i < zs.length := by omega
    obtain ⟨b, off, rfl, hc'⟩ := ints_at hcell (by omega)
    have := hc' i hi'
    refine ⟨b, off, rfl, World.block_lt_of_cell? W _ this, ?_⟩
    rw [this, List.getElem_take, List.getD_eq_getElem?_getD, List.getElem?_eq_getElem hi']; rfl

theorem ints_open {H : Type} {enc : TypeId × Value → H} {W : World} {base : Nat} {v : Value} {d : DataW H} {p : List MemPlace} (hv : Value.okWide Try.prog W .any base 23 v) (h : DataW.Trod enc Try.prog W 0 (fun _ => true) true 23 v d p) :
    ∃ a xs cap, v = .slice a xs.length cap ∧ Row W a xs ∧ xs.length ≤ maxLen := by
  obtain ⟨a0, len0, cap0, rfl⟩ := okWide_slice Try.underlying23 hv
  obtain ⟨fuel, hf⟩ := h
  obtain ⟨a, xs, cap, hcs, hr, hl, _⟩ := slice_row hf
  simp [Value.cells] at hcs
  obtain ⟨rfl, rfl, rfl⟩ := hcs
  exact ⟨_, _, _, rfl, hr, hl⟩

theorem as_row {H : Type} {enc : TypeId × Value → H} {W : World} {n : Nat} {cs : List Value} {x : DataW H × List MemPlace} (h : DataW.trod enc Try.prog W 0 (fun _ => true) true n 38 cs = some x) (hlen : cs.length = 3) :
    ∃ (t : As) (ra : Option Addr) (rc : Nat), cs = [.int .i64 t.lit, .int .i64 t.lev, .slice ra t.rsn.length rc] ∧ Row W ra t.rsn ∧ t.rsn.length ≤ maxLen ∧ Fit t.rsn ∧ (-9223372036854775808 ≤ t.lit ∧ t.lit ≤ 9223372036854775807) ∧ (-9223372036854775808 ≤ t.lev ∧ t.lev ≤ 9223372036854775807) := by
  obtain ⟨xs, k, hk, hxy, _, hxl, hf⟩ := DataW.trod_struct Try.underlying38 h
  match xs, hxl, cs, hlen with
  | [y0, y1, y2], _, [v0, v1, v2], _ =>
    have g0 := hf 0 _ rfl
    have g1 := hf 1 _ rfl
    have g2 := hf 2 _ rfl
    simp [Try.cells3, Try.cells23] at g0 g1 g2
    obtain ⟨n0, e0, -, w0⟩ := DataW.trod_int Try.underlying3 g0
    obtain ⟨n1, e1, -, w1⟩ := DataW.trod_int Try.underlying3 g1
    obtain ⟨ra, c, rc, e2, hr, hl, hfit⟩ := slice_row g2
    simp at e0 e1 e2
    subst e0 e1 e2
    exact ⟨⟨n0, n1, c⟩, ra, rc, rfl, hr, hl, hfit, wf_i64 w0, wf_i64 w1⟩

theorem trail_open {H : Type} {enc : TypeId × Value → H} {W : World} {base : Nat} {v : Value} {d : DataW H} {p : List MemPlace} (hv : Value.okWide Try.prog W .any base 22 v) (h : DataW.Trod enc Try.prog W 0 (fun _ => true) true 22 v d p) :
    ∃ a ts cap, v = .slice a ts.length cap ∧ TrI W a cap ts := by
  obtain ⟨a1, len0, cap0, rfl⟩ := okWide_slice Try.underlying22 hv
  obtain ⟨fuel, hf⟩ := h
  rcases open_slice Try.underlying22 hf with ⟨hcs, _⟩ | ⟨a, len, cap, m, n, D, Pl, hcs, _, hl, hm, hmm, _, hx⟩
  · simp [Value.cells] at hcs
    obtain ⟨rfl, rfl, rfl⟩ := hcs
    exact ⟨none, [], 0, rfl, fun k hk => by simp at hk, by simp, by simp, by simp⟩
  · simp [Value.cells] at hcs
    obtain ⟨rfl, rfl, rfl⟩ := hcs
    have each : ∀ i, i < len0 → ∃ q : As, ∃ b off, a = ⟨b, off, none⟩ ∧ AsAt W b (off + i * 3) q := by
      intro i hi
      obtain ⟨cs', h1, h2⟩ := hx i (by rw [hmm]; simp; omega)
      rw [Try.cells38] at h1
      obtain ⟨_, hlen, hcell⟩ := World.cells?_some h1
      obtain ⟨t, ra, rc, rfl, hr, hl', hf1, hf2, hf3⟩ := as_row h2 hlen
      have c0 := hcell 0 (by omega)
      have c1 := hcell 1 (by omega)
      have c2 := hcell 2 (by omega)
      rw [add_add] at c0 c1 c2
      obtain ⟨cs0, h10, _⟩ := hx 0 (by rw [hmm]; simp; omega)
      rw [Try.cells38] at h10
      have d1 := (World.cells?_some h10).2.1
      have d0 := (World.cells?_some h10).2.2 0 (by omega)
      rw [List.getElem?_eq_getElem (by omega)] at d0
      obtain ⟨b, off, spot⟩ := a
      have hspot : spot = none := by simpa [Addr.add] using World.cell?_spot d0
      subst hspot
      rw [Addr.add_lit] at c0 c1 c2
      simp only [← Nat.add_assoc] at c1 c2
      refine ⟨t, b, off, rfl, ⟨World.block_lt_of_cell? W _ c0, by simpa using c0, by simpa using c1, ⟨ra, rc, by simpa using c2, hr⟩, hl', hf1, hf2, hf3⟩⟩
    have inh : Inhabited As := ⟨a0⟩
    obtain ⟨q, hq⟩ := choose_lt each
    have hlen : ((List.range len0).map fun i => q i).length = len0 := by simp
    refine ⟨some a, (List.range len0).map fun i => q i, cap0, by rw [hlen], ⟨fun k hk => ?_, by omega, by omega, hm⟩⟩
    have hk' : k < len0 := by omega
    obtain ⟨b, off, rfl, H⟩ := hq k hk'
    have ek : nth ((List.range len0).map fun i => q i) k = q k := by rw [nth_eq hk]; simp
    exact ⟨b, off, rfl, by rw [ek]; exact H⟩

end Go.Proofs.Ytaepanmkofhgoaa
