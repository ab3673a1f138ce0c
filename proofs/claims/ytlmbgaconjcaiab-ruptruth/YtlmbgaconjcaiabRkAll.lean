/- Joined: Contracts: the short proof proves; its formula is not broken by units alone. Contract: the short proof that every promise looks at first. From data that came in to the numbers, bytes and clauses that they hold. From a formula and clauses that came in to what they hold. From a formula and a step that came in to what they hold. From a proof that came in to the steps that it holds. -/
import Derived.Test.YtlmbgaconjcaiabRiAll
import Derived.Test.YtlmbgaconjcaiabWalkP
import Derived.Test.YtlmbgaconjcaiabWalkL
import Derived.OpenShut
import Derived.ProofKit
import Derived.Lib.SmallJoins
import Derived.Deep.Matrix
import Derived.Test.YtlmbgaconjcaiabHAll
import Derived.Deep.Slices
import Derived.Deep.Fields
import Derived.Test.YtlmbgaconjcaiabRIAll
set_option linter.unusedVariables false
set_option linter.unusedSimpArgs false
namespace Go.Proofs.Ytlmbgaconjcaiab
open Go.RowKit

theorem open_sh {W0 w1 : World} {k B : Nat} (h : OpenP W0 2 css4 steps2 k B w1) : Sh W0 w1 k B 0 ∧ W0.heap.size ≤ k := by
  obtain ⟨ρ, s, hK, hE, e1, e2, e3, e4, hk⟩ := h
  rw [spare2] at hK
  exact ⟨⟨ρ, s, hK, hE.evN k, e1.trans vars2, e2, e3, e4⟩, hk⟩
theorem evN_bel {w W0 w' : World} {ρ : Nat → Rl} {k : Nat} (h : EvN k free W0 ρ w') (hb : Below w.heap.size w W0) (hk : W0.heap.size ≤ k) : Below w.heap.size w w' := by
  have hs := hb.size
  exact ⟨h.os.trans hb.os, h.tape.trans hb.tape, h.output.trans hb.output, Nat.le_trans hs h.size, fun b hb' => (h.keep b (by omega) (by omega) rfl).trans (hb.block b hb')⟩
theorem evN_cell {W0 w' : World} {ρ : Nat → Rl} {k b i : Nat} {v : Value} (h : EvN k free W0 ρ w') (hk : W0.heap.size ≤ k) (hb : b < W0.heap.size) (hc : W0.cell? ⟨b, i, none⟩ = some v) : w'.cell? ⟨b, i, none⟩ = some v :=
  (World.cell?_of_block (a := ⟨b, i, none⟩) (h.keep b hb (by omega) rfl)).trans hc

set_option maxHeartbeats 4000000 in
set_option maxRecDepth 100000 in
theorem proves_aw (w : World) (a al : Option Addr) (cap cal : Nat) (hg : GridC w a css4) (hs : Sts w al steps2) :
    Calls Try.prog 8 #[.agg #[.int .i64 2, .slice a 4 cap], .slice al 2 cal] w fun e w' => e = .returned (.tuple #[.int .i64 1, .int .i64 0]) ∧ Below w.heap.size w w' := by
  have hb0 : Below w.heap.size w (w.alloc (.cells #[.int .i64 2, .slice a 4 cap] 24)) := below_alloc w _
  have GO := hide (open_yes a al cap cal 2 css4 steps2 (w.alloc (.cells #[.int .i64 2, .slice a 4 cap] 24)) (hg.below hb0) (by decide) (hs.below hb0) (by decide) (by decide) (by decide))
  have HS := hide (hs.below hb0)
  have HB0 := hide hb0
  clear hb0 hg hs
  go_enter Try.func8, Try.ntmps8
  go_upto_region 4 with (first | (go_at_call 14; refine (unhide GO).mono ?_; rintro e w1 ⟨k, B, rfl, hO⟩; replace hO := hide hO))
  generalize w.alloc (.cells #[.int .i64 2, .slice a 4 cap] 24) = W0 at *
  obtain ⟨hsh, hk⟩ := open_sh hO.out
  have H0 := hide hsh
  clear hsh hO GO
  obtain ⟨b0, off, a0, c0, rfl, hb, S0⟩ := HS.out 0 (by decide)
  obtain ⟨b1, off1, a1, c1, e1, _, S1⟩ := HS.out 1 (by decide)
  simp at e1
  obtain ⟨rfl, rfl⟩ := e1
  have p0 : W0.cell? ⟨b0, off, none⟩ = some (.bool false) := by simpa [steps2] using S0.c0
  have p1 : W0.cell? ⟨b0, off + 1, none⟩ = some (.slice a0 1 c0) := by simpa [steps2] using S0.c1
  have p2 : W0.cell? ⟨b0, off + 2, none⟩ = some (.bool false) := by simpa [steps2] using S1.c0
  have p3 : W0.cell? ⟨b0, off + 3, none⟩ = some (.slice a1 0 c1) := by simpa [steps2] using S1.c1
  have R0 : Hid (Row W0 a0 [2]) := S0.row
  have N0 := S0.nil
  have N1 := S1.nil
  clear S0 S1 HS
  go_wp2
  go_loopw [22] (fun x W => ∃ i : Nat, i ≤ 1 ∧ x = .int .i64 (i : Int) ∧ Hid (Sh W0 W k B i)) (fun x _ => 2 - (intOf x).toNat)
  case atStart => exact ⟨0, by omega, rfl, H0⟩
  case round =>
    obtain ⟨i, hi, rfl, HI⟩ := hrel
    clear H0
    obtain ⟨ρ, hE⟩ := HI.out.ev
    have q0 := evN_cell hE hk hb p0
    have q1 := evN_cell hE hk hb p1
    have q2 := evN_cell hE hk hb p2
    have q3 := evN_cell hE hk hb p3
    have hsz := hE.size
    clear hE
    by_cases hi0 : i = 0
    · subst hi0
      have G := hide (do_one HI.out hk (.cells #[.bool false, .slice a0 1 c0] 37) a0 c0 R0.out N0)
      clear HI
      go_wp2_with (first | (go_at_call 15; refine (unhide G).mono ?_; rintro e w2 ⟨rfl, hsh2, hbx⟩; replace hsh2 := hide hsh2; have x0 : w2.cell? ⟨wr.heap.size, 0, none⟩ = some (.bool false) := cell_of_block hbx rfl; have x1 : w2.cell? ⟨wr.heap.size, 1, none⟩ = some (.slice a0 1 c0) := cell_of_block hbx rfl; clear hbx))
      go_roundw
      case rel => exact ⟨1, by omega, by go_num, hsh2⟩
      case measure => simp [intOf]
    · obtain rfl : i = 1 := by omega
      have G := hide (do_two HI.out hk (.cells #[.bool false, .slice a1 0 c1] 37) a1 c1 N1)
      clear HI
      go_wp2_with (first | (go_at_call 15; refine (unhide G).mono ?_; rintro e w2 ⟨rfl, ⟨ρ2, hE2⟩, hbx⟩; replace hE2 := hide hE2; have x0 : w2.cell? ⟨wr.heap.size, 0, none⟩ = some (.bool false) := cell_of_block hbx rfl; have x1 : w2.cell? ⟨wr.heap.size, 1, none⟩ = some (.slice a1 0 c1) := cell_of_block hbx rfl; clear hbx))
      go_ret2
      exact ⟨rfl, evN_bel hE2.out HB0.out hk⟩

/-- Units alone don't break it. -/
theorem unit_aw {b : Bool} (h : UnitE 2 css4 [] b) : b = false := by
  obtain ⟨t, ds, hI, hk, hd, _, hds, hT⟩ := h
  have hs3 : spareN 2 [⟨false, []⟩] = 3 := by decide
  rw [hs3] at hd
  have hnil : ds = [] := by
    cases ds with
    | nil => rfl
    | cons d r => have := hds d (by simp); simp at this
  have hdec : t.dec = [3] := by rw [hd (by omega), hnil]; rfl
  rcases hT with ⟨_, h⟩ | ⟨h, _⟩
  · rcases h with ⟨l, hl, _⟩ | ⟨n, hn⟩
    · simp at hl
    · exact (aw_three hI hk hdec hn).elim
  · exact h

set_option maxHeartbeats 4000000 in
set_option maxRecDepth 100000 in
theorem broken_aw (w : World) (a : Option Addr) (cap : Nat) (hg : GridC w a css4) :
    Calls Try.prog 13 #[.agg #[.int .i64 2, .slice a 4 cap]] w fun e w' => e = .returned (.bool false) ∧ Below w.heap.size w w' := by
  have hb0 : Below w.heap.size w (w.alloc (.cells #[.int .i64 2, .slice a 4 cap] 24)) := below_alloc w _
  have GU : Hid (Calls Try.prog 19 #[.agg #[.int .i64 2, .slice a 4 cap], .slice none 0 0] (w.alloc (.cells #[.int .i64 2, .slice a 4 cap] 24)) fun e w' => e = .returned (.bool false) ∧ Below w.heap.size w w') := by
    refine (unit_yes a none cap 0 2 css4 [] _ (hg.below hb0) (by decide) (fun i hi => by simp at hi) (by simp) (fun _ => rfl) (by decide) (by decide)).mono ?_
    rintro e w' ⟨b, rfl, ⟨_, hE⟩, hb⟩
    rw [unit_aw hE]
    exact ⟨rfl, hb0.trans (hb.mono hb0.size)⟩
  clear hg hb0
  go_enter Try.func13, Try.ntmps13
  go_wp2_with (first | (go_at_call 19; refine (unhide GU).mono ?_; rintro e w1 ⟨rfl, hb1⟩))
  go_ret
  exact ⟨rfl, hb1⟩
end Go.Proofs.Ytlmbgaconjcaiab

namespace Go.Proofs.Ytlmbgaconjcaiab
open Go.RowKit

theorem heap_at {w W : World} {os : List Obj} (h : W.heap = w.heap ++ os.toArray) {i : Nat} {o : Obj} (hi : os[i]? = some o) : W.heap[w.heap.size + i]? = some o := by
  rw [h, Array.getElem?_append_right (by omega)]
  simpa using hi
theorem row_two {W : World} {g : Nat} {a b : Int} (h : W.heap[g]? = some (.cells #[.int .i64 a, .int .i64 b] 3 (0, 0))) : Row W (some ⟨g, 0, none⟩) [a, b] := by
  have hg := lt_of_block h
  intro i hi
  refine ⟨g, 0, rfl, hg, cell_of_block h ?_⟩
  match i, hi with
  | 0, _ => rfl
  | 1, _ => rfl
  | i + 2, hi => simp at hi; omega
theorem row_one {W : World} {g : Nat} {a : Int} (h : W.heap[g]? = some (.cells #[.int .i64 a] 3 (0, 0))) : Row W (some ⟨g, 0, none⟩) [a] := by
  have hg := lt_of_block h
  intro i hi
  refine ⟨g, 0, rfl, hg, cell_of_block h ?_⟩
  match i, hi with
  | 0, _ => rfl
  | i + 1, hi => simp at hi

def awRow (n : Nat) : Obj := .cells #[.slice (some ⟨n, 0, none⟩) 2 2, .slice (some ⟨n + 1, 0, none⟩) 2 2, .slice (some ⟨n + 2, 0, none⟩) 2 2, .slice (some ⟨n + 3, 0, none⟩) 2 2] 32
def awObjs (n : Nat) : List Obj := [.cells #[.int .i64 1, .int .i64 2] 3, .cells #[.int .i64 (-1), .int .i64 2] 3, .cells #[.int .i64 1, .int .i64 (-2)] 3, .cells #[.int .i64 (-1), .int .i64 (-2)] 3, awRow n, .cells #[.int .i64 2, .slice (some ⟨n + 4, 0, none⟩) 4 4] 24, .cells #[.int .i64 2] 3, .cells #[.bool false, .slice (some ⟨n + 6, 0, none⟩) 1 1, .bool false, .slice none 0 0] 37]
def awW (w : World) : World := (awObjs w.heap.size).foldl World.alloc w
theorem awW_heap (w : World) : (awW w).heap = w.heap ++ (awObjs w.heap.size).toArray := by
  unfold awW awObjs
  simp only [List.foldl]
  show ((((((((w.heap.push _).push _).push _).push _).push _).push _).push _).push _) = _
  apply Array.ext'
  simp
theorem awW_bel (w : World) : Below w.heap.size w (awW w) := by
  have h : ∀ (os : List Obj) (W : World), Below w.heap.size w W → Below w.heap.size w (os.foldl World.alloc W) := by
    intro os
    induction os with
    | nil => intro W h; exact h
    | cons o r ih => intro W h; exact ih _ (h.alloc h.size _)
  exact h _ w (Below.refl _ _)
theorem awW_grid (w : World) : GridC (awW w) (some ⟨w.heap.size + 4, 0, none⟩) css4 := by
  have h0 := heap_at (awW_heap w) (i := 0) rfl
  have h1 := heap_at (awW_heap w) (i := 1) rfl
  have h2 := heap_at (awW_heap w) (i := 2) rfl
  have h3 := heap_at (awW_heap w) (i := 3) rfl
  have h4 := heap_at (awW_heap w) (i := 4) rfl
  have hl := lt_of_block h4
  intro i hi
  match i, hi with
  | 0, _ => exact ⟨w.heap.size + 4, 0, some ⟨w.heap.size, 0, none⟩, 2, rfl, hl, cell_of_block h4 rfl, row_two h0, by simp [css4, maxLen], by simp⟩
  | 1, _ => exact ⟨w.heap.size + 4, 0, some ⟨w.heap.size + 1, 0, none⟩, 2, rfl, hl, cell_of_block h4 rfl, row_two h1, by simp [css4, maxLen], by simp⟩
  | 2, _ => exact ⟨w.heap.size + 4, 0, some ⟨w.heap.size + 2, 0, none⟩, 2, rfl, hl, cell_of_block h4 rfl, row_two h2, by simp [css4, maxLen], by simp⟩
  | 3, _ => exact ⟨w.heap.size + 4, 0, some ⟨w.heap.size + 3, 0, none⟩, 2, rfl, hl, cell_of_block h4 rfl, row_two h3, by simp [css4, maxLen], by simp⟩
  | i + 4, hi => simp [css4] at hi; omega
theorem awW_sts (w : World) : Sts (awW w) (some ⟨w.heap.size + 7, 0, none⟩) steps2 := by
  have h6 := heap_at (awW_heap w) (i := 6) rfl
  have h7 := heap_at (awW_heap w) (i := 7) rfl
  have hl := lt_of_block h7
  intro i hi
  match i, hi with
  | 0, _ => exact ⟨w.heap.size + 7, 0, some ⟨w.heap.size + 6, 0, none⟩, 1, rfl, hl, cell_of_block h7 rfl, cell_of_block h7 rfl, row_one h6, by simp [steps2, maxLen], by simp⟩
  | 1, _ => exact ⟨w.heap.size + 7, 0, none, 0, rfl, hl, cell_of_block h7 rfl, cell_of_block h7 rfl, fun i hi => by simp [steps2] at hi, by simp [steps2, maxLen], fun _ => rfl⟩
  | i + 2, hi => simp [steps2] at hi; omega

set_option maxHeartbeats 4000000 in
set_option maxRecDepth 100000 in
theorem rupAwake_any (w : World) : Calls Try.prog 7 #[] w fun e w' => e = .returned (.bool true) ∧ Below w.heap.size w w' := by
  have GP := hide (proves_aw (awW w) (some ⟨w.heap.size + 4, 0, none⟩) (some ⟨w.heap.size + 7, 0, none⟩) 4 2 (awW_grid w) (awW_sts w))
  have GB : Hid (∀ W, Below (awW w).heap.size (awW w) W → Calls Try.prog 13 #[.agg #[.int .i64 2, .slice (some ⟨w.heap.size + 4, 0, none⟩) 4 4]] W fun e w' => e = .returned (.bool false) ∧ Below W.heap.size W w') := fun W hW => broken_aw W _ 4 ((awW_grid w).below hW)
  have hbx := heap_at (awW_heap w) (i := 5) rfl
  have HBX := hide hbx
  have HB0 := hide (awW_bel w)
  clear hbx
  go_enter Try.func7, Try.ntmps7
  go_wp2_with (first | (go_at_call 8; refine (unhide GP).mono ?_; rintro e w1 ⟨rfl, hb1⟩; have hbx1 := (hb1.block _ (lt_of_block HBX.out)).trans HBX.out; have x0 : w1.cell? ⟨w.heap.size + 1 + 1 + 1 + 1 + 1, 0, none⟩ = some (.int .i64 2) := cell_of_block hbx1 rfl; have x1 : w1.cell? ⟨w.heap.size + 1 + 1 + 1 + 1 + 1, 1, none⟩ = some (.slice (some ⟨w.heap.size + 4, 0, none⟩) 4 4) := cell_of_block hbx1 rfl; clear hbx1) | (go_at_call 13; refine (unhide GB w1 hb1).mono ?_; rintro e w2 ⟨rfl, hb2⟩))
  go_ret
  have h1 := HB0.out.trans (hb1.mono HB0.out.size)
  exact ⟨rfl, h1.trans (hb2.mono h1.size)⟩
end Go.Proofs.Ytlmbgaconjcaiab

namespace Go.Proofs.Ytlmbgaconjcaiab
open Go.ChangeShapes Go.WideShapes Go.ChangeAt Go.RowKit Go.Joins Go.Deep

theorem row_of {w : World} {a : Option Addr} {len cap : Nat} {zs : List Int}
    (h : (a = none ∧ len = 0 ∧ cap = 0 ∧ zs = []) ∨ ∃ x, a = some x ∧ len ≤ cap ∧ cap ≤ maxLen ∧ zs.length = cap ∧ (∀ i, i < zs.length → w.cell? (x.add i) = some (.int .i64 (zs.getD i 0))) ∧ ∀ n ∈ zs, (Lit.int .i64 n).wf = true) :
    ∃ xs, len = xs.length ∧ Row w a xs ∧ xs.length ≤ maxLen := by
  rcases h with ⟨rfl, rfl, rfl, rfl⟩ | ⟨x, rfl, hl, hm, hz, hc, hw⟩
  · exact ⟨[], rfl, fun i hi => by simp at hi, by simp⟩
  · have hlen : (zs.take len).length = len := by simp; omega
    refine ⟨zs.take len, hlen.symm, ?_, by omega⟩
    intro i hi
    have hi' : i < zs.length := by omega
    obtain ⟨b, off, rfl, hc'⟩ := ints_at hc (by omega)
    have := hc' i hi'
    refine ⟨b, off, rfl, World.block_lt_of_cell? w _ this, ?_⟩
    rw [this, List.getElem_take, List.getD_eq_getElem?_getD, List.getElem?_eq_getElem hi']; rfl

theorem Try.cells3 : Try.prog.cellsOf 3 = 1 := by kernel_rfl

theorem Try.cells32 : Try.prog.cellsOf 32 = 1 := by kernel_rfl

set_option maxRecDepth 100000 in
theorem slice_row {H : Type} {enc : TypeId × Value → H} {W : World} {fuel : Nat} {cs : List Value} {y : DataW H × List MemPlace} (hf : DataW.trod enc Try.prog W 0 (fun _ => true) true fuel 32 cs = some y) :
    ∃ a xs cap, cs = [.slice a xs.length cap] ∧ Row W a xs ∧ xs.length ≤ maxLen := by
  rcases open_ints Try.underlying32 Try.underlying3 Try.cells3 hf with ⟨hcs, _⟩ | ⟨x, l, c, zs, hcs, _, hl, hm, hz, _, hcell, hwz⟩
  · exact ⟨none, [], 0, hcs, fun i hi => by simp at hi, by simp⟩
  · obtain ⟨xs, e, hr, hx⟩ := row_of (w := W) (a := some x) (len := l) (cap := c) (zs := zs) (.inr ⟨_, rfl, hl, hm, by simpa using hz, hcell, hwz⟩)
    subst e
    exact ⟨some x, xs, c, hcs, hr, hx⟩

set_option maxRecDepth 100000 in
theorem slice_open {H : Type} {enc : TypeId × Value → H} {W : World} {base : Nat} {v : Value} {d : DataW H} {p : List MemPlace} (hv : Value.okWide Try.prog W .any base 32 v) (h : DataW.Trod enc Try.prog W 0 (fun _ => true) true 32 v d p) :
    ∃ a xs cap, v = .slice a xs.length cap ∧ Row W a xs ∧ xs.length ≤ maxLen := by
  obtain ⟨a0, len0, cap0, rfl⟩ := okWide_slice Try.underlying32 hv
  obtain ⟨fuel, hf⟩ := h
  obtain ⟨a, xs, cap, hcs, hr, hl⟩ := slice_row hf
  simp [Value.cells] at hcs
  obtain ⟨rfl, rfl, rfl⟩ := hcs
  exact ⟨_, _, _, rfl, hr, hl⟩

theorem Try.cells24 : Try.prog.cellsOf 24 = 2 := by kernel_rfl

set_option maxRecDepth 100000 in
theorem grid_row {H : Type} {enc : TypeId × Value → H} {W : World} {fuel : Nat} {cs : List Value} {y : DataW H × List MemPlace} (hf : DataW.trod enc Try.prog W 0 (fun _ => true) true fuel 22 cs = some y) :
    ∃ a css cap, cs = [.slice a css.length cap] ∧ Grid W a css ∧ css.length ≤ maxLen := by
  rcases open_int_rows Try.underlying22 Try.underlying32 Try.underlying3 Try.cells32 Try.cells3 hf with ⟨hcs, _⟩ | ⟨a, len, cap, A, L, C, Z, hcs, _, hl, hm, _, hall⟩
  · exact ⟨none, [], 0, hcs, fun i hi => by simp at hi, by simp⟩
  · have hlen : ((List.range len).map fun r => (Z r).take (L r)).length = len := by simp
    refine ⟨some a, (List.range len).map fun r => (Z r).take (L r), cap, by rw [hlen]; exact hcs, ?_, by omega⟩
    intro i hi
    have hi' : i < len := by omega
    have hic : i < cap := by omega
    obtain ⟨hc0, -⟩ := hall 0 (by omega)
    obtain ⟨b, off, spot⟩ := a
    have hspot : spot = none := by simpa [Addr.add] using World.cell?_spot hc0
    subst hspot
    obtain ⟨hc, h1, h2, h3, h4, h5, h6⟩ := hall i hic
    rw [add_plain] at hc
    have ei : ((List.range len).map fun r => (Z r).take (L r))[i] = (Z i).take (L i) := by simp
    obtain ⟨xs, e, hr, hx⟩ : ∃ xs, L i = xs.length ∧ Row W (A i) xs ∧ xs = (Z i).take (L i) := by
      have hlt : ((Z i).take (L i)).length = L i := by simp; omega
      refine ⟨_, hlt.symm, ?_, rfl⟩
      intro j hj
      cases hA : A i with
      | none => have := h5 hA; omega
      | some a' =>
        obtain ⟨-, hcell⟩ := h6 a' hA
        have hc' : ∀ c, c < (Z i).length → W.cell? (a'.add c) = some (.int .i64 ((Z i).getD c 0)) := fun c h => hcell c (by omega)
        obtain ⟨b', off', rfl, hc''⟩ := ints_at hc' (by omega)
        have hj' : j < (Z i).length := by omega
        have := hc'' j hj'
        refine ⟨b', off', rfl, World.block_lt_of_cell? W _ this, ?_⟩
        rw [this, List.getElem_take, List.getD_eq_getElem?_getD, List.getElem?_eq_getElem hj']; rfl
    refine ⟨b, off, A i, C i, rfl, World.block_lt_of_cell? W _ hc, ?_, ?_, ?_⟩
    · rw [ei, ← hx, ← e]; exact hc
    · rw [ei, ← hx]; exact hr
    · rw [ei, ← hx, ← e]; omega

set_option maxRecDepth 100000 in
theorem cnf_open {H : Type} {enc : TypeId × Value → H} {W : World} {base : Nat} {v : Value} {d : DataW H} {p : List MemPlace} (hv : Value.okWide Try.prog W .any base 24 v) (h : DataW.Trod enc Try.prog W 0 (fun _ => true) true 24 v d p) :
    ∃ (n : Int) (a : Option Addr) (css : List (List Int)) (cap : Nat), v = .agg #[.int .i64 n, .slice a css.length cap] ∧ Grid W a css ∧ css.length ≤ maxLen := by
  obtain ⟨c0, c1, y0, y1, f, rfl, -, -, hy0, hy1⟩ := open_agg2 Try.underlying24 (by kernel_rfl) Try.cells24 hv h
  obtain ⟨n, e0, -, wn⟩ := DataW.trod_int Try.underlying3 hy0
  obtain ⟨a, css, cap, e1, hg, hl⟩ := grid_row hy1
  simp at e0 e1
  subst e0 e1
  exact ⟨n, a, css, cap, rfl, hg, hl⟩

theorem Try.cells5 : Try.prog.cellsOf 5 = 1 := by kernel_rfl

end Go.Proofs.Ytlmbgaconjcaiab

namespace Go.Proofs.Ytlmbgaconjcaiab
open Go.ChangeShapes Go.WideShapes Go.ChangeAt Go.RowKit Go.Joins Go.Deep

theorem slice_rowC {H : Type} {enc : TypeId × Value → H} {W : World} {fuel : Nat} {cs : List Value} {y : DataW H × List MemPlace} (hf : DataW.trod enc Try.prog W 0 (fun _ => true) true fuel 32 cs = some y) :
    ∃ a xs cap, cs = [.slice a xs.length cap] ∧ Row W a xs ∧ xs.length ≤ maxLen ∧ (a = none → cap = 0) := by
  rcases open_ints Try.underlying32 Try.underlying3 Try.cells3 hf with ⟨hcs, _⟩ | ⟨x, l, c, zs, hcs, _, hl, hm, hz, _, hcell, hwz⟩
  · exact ⟨none, [], 0, hcs, fun i hi => by simp at hi, by simp, fun _ => rfl⟩
  · obtain ⟨xs, e, hr, hx⟩ := row_of (w := W) (a := some x) (len := l) (cap := c) (zs := zs) (.inr ⟨_, rfl, hl, hm, by simpa using hz, hcell, hwz⟩)
    subst e
    exact ⟨some x, xs, c, hcs, hr, hx, by simp⟩

set_option maxRecDepth 100000 in
theorem grid_rowC {H : Type} {enc : TypeId × Value → H} {W : World} {fuel : Nat} {cs : List Value} {y : DataW H × List MemPlace} (hf : DataW.trod enc Try.prog W 0 (fun _ => true) true fuel 22 cs = some y) :
    ∃ a css cap, cs = [.slice a css.length cap] ∧ GridC W a css ∧ css.length ≤ maxLen ∧ (a = none → cap = 0) := by
  rcases open_int_rows Try.underlying22 Try.underlying32 Try.underlying3 Try.cells32 Try.cells3 hf with ⟨hcs, _⟩ | ⟨a, len, cap, A, L, C, Z, hcs, _, hl, hm, _, hall⟩
  · exact ⟨none, [], 0, hcs, fun i hi => by simp at hi, by simp, fun _ => rfl⟩
  · have hlen : ((List.range len).map fun r => (Z r).take (L r)).length = len := by simp
    refine ⟨some a, (List.range len).map fun r => (Z r).take (L r), cap, by rw [hlen]; exact hcs, ?_, by omega, by simp⟩
    intro i hi
    have hi' : i < len := by omega
    have hic : i < cap := by omega
    obtain ⟨hc0, -⟩ := hall 0 (by omega)
    obtain ⟨b, off, spot⟩ := a
    have hspot : spot = none := by simpa [Addr.add] using World.cell?_spot hc0
    subst hspot
    obtain ⟨hc, h1, h2, h3, h4, h5, h6⟩ := hall i hic
    rw [add_plain] at hc
    have ei : ((List.range len).map fun r => (Z r).take (L r))[i] = (Z i).take (L i) := by simp
    obtain ⟨xs, e, hr, hx⟩ : ∃ xs, L i = xs.length ∧ Row W (A i) xs ∧ xs = (Z i).take (L i) := by
      have hlt : ((Z i).take (L i)).length = L i := by simp; omega
      refine ⟨_, hlt.symm, ?_, rfl⟩
      intro j hj
      cases hA : A i with
      | none => have := h5 hA; omega
      | some a' =>
        obtain ⟨-, hcell⟩ := h6 a' hA
        have hc' : ∀ c, c < (Z i).length → W.cell? (a'.add c) = some (.int .i64 ((Z i).getD c 0)) := fun c h => hcell c (by omega)
        obtain ⟨b', off', rfl, hc''⟩ := ints_at hc' (by omega)
        have hj' : j < (Z i).length := by omega
        have := hc'' j hj'
        refine ⟨b', off', rfl, World.block_lt_of_cell? W _ this, ?_⟩
        rw [this, List.getElem_take, List.getD_eq_getElem?_getD, List.getElem?_eq_getElem hj']; rfl
    refine ⟨b, off, A i, C i, rfl, World.block_lt_of_cell? W _ hc, ?_, ?_, ?_, h5⟩
    · rw [ei, ← hx, ← e]; exact hc
    · rw [ei, ← hx]; exact hr
    · rw [ei, ← hx, ← e]; omega

set_option maxRecDepth 100000 in
theorem cnf_openC {H : Type} {enc : TypeId × Value → H} {W : World} {base : Nat} {v : Value} {d : DataW H} {p : List MemPlace} (hv : Value.okWide Try.prog W .any base 24 v) (h : DataW.Trod enc Try.prog W 0 (fun _ => true) true 24 v d p) :
    ∃ (n : Int) (a : Option Addr) (css : List (List Int)) (cap : Nat), v = .agg #[.int .i64 n, .slice a css.length cap] ∧ GridC W a css ∧ css.length ≤ maxLen ∧ (a = none → cap = 0) := by
  obtain ⟨c0, c1, y0, y1, f, rfl, -, -, hy0, hy1⟩ := open_agg2 Try.underlying24 (by kernel_rfl) Try.cells24 hv h
  obtain ⟨n, e0, -, wn⟩ := DataW.trod_int Try.underlying3 hy0
  obtain ⟨a, css, cap, e1, hg, hl, hn⟩ := grid_rowC hy1
  simp at e0 e1
  subst e0 e1
  exact ⟨n, a, css, cap, rfl, hg, hl, hn⟩

set_option maxRecDepth 100000 in
theorem slice_openC {H : Type} {enc : TypeId × Value → H} {W : World} {base : Nat} {v : Value} {d : DataW H} {p : List MemPlace} (hv : Value.okWide Try.prog W .any base 32 v) (h : DataW.Trod enc Try.prog W 0 (fun _ => true) true 32 v d p) :
    ∃ a xs cap, v = .slice a xs.length cap ∧ Row W a xs ∧ xs.length ≤ maxLen ∧ (a = none → cap = 0) := by
  obtain ⟨a0, len0, cap0, rfl⟩ := okWide_slice Try.underlying32 hv
  obtain ⟨fuel, hf⟩ := h
  obtain ⟨a, xs, cap, hcs, hr, hl, hn⟩ := slice_rowC hf
  simp [Value.cells] at hcs
  obtain ⟨rfl, rfl, rfl⟩ := hcs
  exact ⟨_, _, _, rfl, hr, hl, hn⟩
end Go.Proofs.Ytlmbgaconjcaiab

namespace Go.Proofs.Ytlmbgaconjcaiab
open Go.ChangeShapes Go.WideShapes Go.ChangeAt Go.RowKit Go.Joins Go.Deep

theorem Try.cells37 : Try.prog.cellsOf 37 = 2 := by kernel_rfl

set_option maxRecDepth 100000 in
theorem grid_rowD {H : Type} {enc : TypeId × Value → H} {W : World} {fuel : Nat} {cs : List Value} {y : DataW H × List MemPlace} (hf : DataW.trod enc Try.prog W 0 (fun _ => true) true fuel 22 cs = some y) :
    ∃ a css cap, cs = [.slice a css.length cap] ∧ GridC W a css ∧ css.length ≤ maxLen ∧ (a = none → cap = 0) ∧ css.length ≤ cap ∧ cap ≤ maxLen := by
  rcases open_int_rows Try.underlying22 Try.underlying32 Try.underlying3 Try.cells32 Try.cells3 hf with ⟨hcs, _⟩ | ⟨a, len, cap, A, L, C, Z, hcs, _, hl, hm, _, hall⟩
  · exact ⟨none, [], 0, hcs, fun i hi => by simp at hi, by simp, fun _ => rfl, by simp, by simp⟩
  · have hlen : ((List.range len).map fun r => (Z r).take (L r)).length = len := by simp
    refine ⟨some a, (List.range len).map fun r => (Z r).take (L r), cap, by rw [hlen]; exact hcs, ?_, by omega, by simp, by omega, by omega⟩
    intro i hi
    have hi' : i < len := by omega
    have hic : i < cap := by omega
    obtain ⟨hc0, -⟩ := hall 0 (by omega)
    obtain ⟨b, off, spot⟩ := a
    have hspot : spot = none := by simpa [Addr.add] using World.cell?_spot hc0
    subst hspot
    obtain ⟨hc, h1, h2, h3, h4, h5, h6⟩ := hall i hic
    rw [add_plain] at hc
    have ei : ((List.range len).map fun r => (Z r).take (L r))[i] = (Z i).take (L i) := by simp
    obtain ⟨xs, e, hr, hx⟩ : ∃ xs, L i = xs.length ∧ Row W (A i) xs ∧ xs = (Z i).take (L i) := by
      have hlt : ((Z i).take (L i)).length = L i := by simp; omega
      refine ⟨_, hlt.symm, ?_, rfl⟩
      intro j hj
      cases hA : A i with
      | none => have := h5 hA; omega
      | some a' =>
        obtain ⟨-, hcell⟩ := h6 a' hA
        have hc' : ∀ c, c < (Z i).length → W.cell? (a'.add c) = some (.int .i64 ((Z i).getD c 0)) := fun c h => hcell c (by omega)
        obtain ⟨b', off', rfl, hc''⟩ := ints_at hc' (by omega)
        have hj' : j < (Z i).length := by omega
        have := hc'' j hj'
        refine ⟨b', off', rfl, World.block_lt_of_cell? W _ this, ?_⟩
        rw [this, List.getElem_take, List.getD_eq_getElem?_getD, List.getElem?_eq_getElem hj']; rfl
    refine ⟨b, off, A i, C i, rfl, World.block_lt_of_cell? W _ hc, ?_, ?_, ?_, h5⟩
    · rw [ei, ← hx, ← e]; exact hc
    · rw [ei, ← hx]; exact hr
    · rw [ei, ← hx, ← e]; omega

set_option maxRecDepth 100000 in
theorem cnf_openD {H : Type} {enc : TypeId × Value → H} {W : World} {base : Nat} {v : Value} {d : DataW H} {p : List MemPlace} (hv : Value.okWide Try.prog W .any base 24 v) (h : DataW.Trod enc Try.prog W 0 (fun _ => true) true 24 v d p) :
    ∃ (n : Int) (a : Option Addr) (css : List (List Int)) (cap : Nat), v = .agg #[.int .i64 n, .slice a css.length cap] ∧ GridC W a css ∧ css.length ≤ maxLen ∧ (a = none → cap = 0) ∧ css.length ≤ cap ∧ cap ≤ maxLen := by
  obtain ⟨c0, c1, y0, y1, f, rfl, -, -, hy0, hy1⟩ := open_agg2 Try.underlying24 (by kernel_rfl) Try.cells24 hv h
  obtain ⟨n, e0, -, wn⟩ := DataW.trod_int Try.underlying3 hy0
  obtain ⟨a, css, cap, e1, hg, hl, hn, h1, h2⟩ := grid_rowD hy1
  simp at e0 e1
  subst e0 e1
  exact ⟨n, a, css, cap, rfl, hg, hl, hn, h1, h2⟩

set_option maxRecDepth 100000 in
theorem step_openD {H : Type} {enc : TypeId × Value → H} {W : World} {base : Nat} {v : Value} {d : DataW H} {p : List MemPlace} (hv : Value.okWide Try.prog W .any base 37 v) (h : DataW.Trod enc Try.prog W 0 (fun _ => true) true 37 v d p) :
    ∃ (b : Bool) (a : Option Addr) (c : List Int) (cap : Nat), v = .agg #[.bool b, .slice a c.length cap] ∧ Row W a c ∧ c.length ≤ maxLen ∧ (a = none → cap = 0) := by
  obtain ⟨c0, c1, y0, y1, f, rfl, -, -, hy0, hy1⟩ := open_agg2 Try.underlying37 (by kernel_rfl) Try.cells37 hv h
  obtain ⟨b, e0, -⟩ := DataW.trod_bool Try.underlying4 hy0
  obtain ⟨a, c, cap, e1, hr, hl, hn⟩ := slice_rowC hy1
  simp at e0 e1
  subst e0 e1
  exact ⟨b, a, c, cap, rfl, hr, hl, hn⟩
end Go.Proofs.Ytlmbgaconjcaiab

namespace Go.Proofs.Ytlmbgaconjcaiab
open Go.ChangeShapes Go.WideShapes Go.ChangeAt Go.RowKit Go.Deep Go.Joins

theorem Try.cells4E : Try.prog.cellsOf 4 = 1 := by kernel_rfl

set_option maxRecDepth 100000 in
theorem step_rowE {H : Type} {enc : TypeId × Value → H} {W : World} {n : Nat} {cs : List Value} {x : DataW H × List MemPlace} (h : DataW.trod enc Try.prog W 0 (fun _ => true) true n 37 cs = some x) (hlen : cs.length = 2) :
    ∃ (t : StD) (ai : Option Addr) (ci : Nat), cs = [.bool t.d, .slice ai t.c.length ci] ∧ Row W ai t.c ∧ t.c.length ≤ maxLen ∧ (ai = none → ci = 0) := by
  obtain ⟨xs, k, hk, hxy, _, hxl, hf⟩ := DataW.trod_struct Try.underlying37 h
  match xs, hxl, cs, hlen with
  | [y0, y1], _, [v0, v1], _ =>
    have g0 := hf 0 _ rfl
    have g1 := hf 1 _ rfl
    simp [Try.cells4E, Try.cells32] at g0 g1
    obtain ⟨d, e0, -⟩ := DataW.trod_bool Try.underlying4 g0
    obtain ⟨ai, c, ci, e1, hr, hl, hn⟩ := slice_rowC g1
    simp at e0 e1
    subst e0 e1
    exact ⟨⟨d, c⟩, ai, ci, rfl, hr, hl, hn⟩

structure StpAt (w : World) (a : Addr) (k : Nat) (x : StD) (ai : Option Addr) (ci : Nat) : Prop where
  c0 : w.cell? (a.add (k * 2)) = some (.bool x.d)
  c1 : w.cell? (a.add (k * 2 + 1)) = some (.slice ai x.c.length ci)
  row : Row w ai x.c
  len : x.c.length ≤ maxLen
  nil : ai = none → ci = 0

set_option maxRecDepth 100000 in
theorem steps_open {H : Type} {enc : TypeId × Value → H} {W : World} {base : Nat} {v : Value} {d : DataW H} {p : List MemPlace} (hv : Value.okWide Try.prog W .any base 25 v) (h : DataW.Trod enc Try.prog W 0 (fun _ => true) true 25 v d p) :
    ∃ a l cap, v = .slice a l.length cap ∧ Sts W a l ∧ l.length ≤ maxLen := by
  obtain ⟨a0, len0, cap0, rfl⟩ := okWide_slice Try.underlying25 hv
  obtain ⟨fuel, hf⟩ := h
  rcases open_slice Try.underlying25 hf with ⟨hcs, _⟩ | ⟨a, len, cap, m, n, D, Pl, hcs, _, hl, hm, hmm, _, hx⟩
  · simp [Value.cells] at hcs
    obtain ⟨rfl, rfl, rfl⟩ := hcs
    exact ⟨none, [], 0, rfl, fun k hk => by simp at hk, by simp⟩
  · simp [Value.cells] at hcs
    obtain ⟨rfl, rfl, rfl⟩ := hcs
    have each : ∀ i, i < len0 → ∃ q : StD × Option Addr × Nat, StpAt W a i q.1 q.2.1 q.2.2 := by
      intro i hi
      obtain ⟨cs', h1, h2⟩ := hx i (by rw [hmm]; simp; omega)
      rw [Try.cells37] at h1
      obtain ⟨_, hlen, hcell⟩ := World.cells?_some h1
      obtain ⟨t, ai, ci, rfl, hr, hl', hn'⟩ := step_rowE h2 hlen
      refine ⟨(t, ai, ci), ?_, ?_, hr, hl', hn'⟩
      · have := hcell 0 (by omega); rw [add_add] at this; simpa using this
      · have := hcell 1 (by omega); rw [add_add] at this; simpa using this
    have inh : Inhabited (StD × Option Addr × Nat) := ⟨(⟨false, []⟩, none, 0)⟩
    obtain ⟨q, hq⟩ := choose_lt each
    have hlen : ((List.range len0).map fun i => (q i).1).length = len0 := by simp
    refine ⟨some a, (List.range len0).map fun i => (q i).1, cap0, by rw [hlen], fun k hk => ?_, by omega⟩
    have hk' : k < len0 := by omega
    obtain ⟨b, off, spot⟩ := a
    have hspot : spot = none := by simpa [Addr.add] using World.cell?_spot (hq 0 (by omega)).c0
    subst hspot
    have H := hq k hk'
    have ek : ((List.range len0).map fun i => (q i).1)[k] = (q k).1 := by simp
    have h0 := H.c0
    have h1 := H.c1
    rw [Addr.add_lit] at h0 h1
    simp only [← Nat.add_assoc] at h1
    refine ⟨b, off, (q k).2.1, (q k).2.2, rfl, World.block_lt_of_cell? W _ h0, ?_⟩
    rw [ek]
    exact ⟨h0, h1, H.row, H.len, H.nil⟩

end Go.Proofs.Ytlmbgaconjcaiab
