/- The law of propagation, of what is not light, or no formula; from arguments to what they hold. -/
import Derived.Test.YtlmbgaconjcaiaaNi
import Derived.Test.YtlmbgaconjcaiaaHe
import Derived.Test.YtlmbgaconjcaiaaOpen
import Derived.OpenShut
import Derived.ProofKit
import Derived.Lib.SmallJoins
import Derived.Deep.Matrix
import Derived.Deep.Slices
import Derived.Deep.Fields
set_option linter.unusedVariables false
set_option linter.unusedSimpArgs false
namespace Go.Proofs.Ytlmbgaconjcaiaa
open Go.RowKit

set_option maxHeartbeats 4000000 in
set_option maxRecDepth 100000 in
theorem runs_dark (a al : Option Addr) (cap cal : Nat) (n : Int) (css : List (List Int)) (L : List ActD) (w : World) (hg : Grid w a css) (hl : css.length ≤ maxLen) (hA : Acts w al L) (hll : L.length ≤ maxLen)
    (hno : lightB css = false ∨ (lightB css = true ∧ 60 < css.length) ∨ (lightB css = true ∧ ¬ 60 < css.length ∧ 60 < n) ∨ (lightB css = true ∧ ¬ 60 < css.length ∧ ¬ 60 < n ∧ lightA L = false)) :
    Calls Try.prog 3 #[.agg #[.int .i64 n, .slice a css.length cap], .slice al L.length cal] w fun e w' => e = .returned (.bool true) ∧ Below w.heap.size w w' := by
  have hb0 := below_alloc w (.cells #[.int .i64 n, .slice a css.length cap] 24)
  have L1 := light_any a cap n css _ (hg.below hb0) hl
  have LA : ∀ x, Below w.heap.size w x → Hid (Calls Try.prog 7 #[.slice al L.length cal] x fun e w' => e = .returned (.bool (lightA L)) ∧ w' = x) := fun x hx => lightA_any al cal L x (hA.below hx) hll
  have HA := fun x => hide (awake_any x)
  have HB0 := hide hb0
  have hblk := heap_alloc_new w (.cells #[.int .i64 n, .slice a css.length cap] 24)
  have HK := hide hblk
  unfold maxLen at hl hll
  rcases hno with h | ⟨h, h1⟩ | ⟨h, h1, h2⟩ | ⟨h, h1, h2, h3⟩
  · rw [h] at L1
    replace L1 := hide L1
    clear hg hb0 hblk h LA hA
    go_enter Try.func3, Try.ntmps3
    go_wp2_with (first | (go_at_call 6; refine (unhide L1).mono ?_; rintro e w1 ⟨rfl, hb1⟩) | (go_at_call 8; refine (unhide (HA _)).mono ?_; rintro e w2 ⟨rfl, hb2⟩))
    go_ret
    exact ⟨rfl, (HB0.out.trans (hb1.mono HB0.out.size)).trans (hb2.mono (Nat.le_trans HB0.out.size hb1.size))⟩
  · rw [h] at L1
    replace L1 := hide L1
    have h1' : (60 : Int) < css.length := by omega
    clear hg hb0 hblk h LA hA
    go_enter Try.func3, Try.ntmps3
    go_wp2_with (first | (go_at_call 6; refine (unhide L1).mono ?_; rintro e w1 ⟨rfl, hb1⟩; have k1 := (hb1.cell (p := ⟨w.heap.size, 1, none⟩) (by simp)).trans (cell_of_block HK.out (i := 1) rfl); have k0 := (hb1.cell (p := ⟨w.heap.size, 0, none⟩) (by simp)).trans (cell_of_block HK.out (i := 0) rfl)) | (go_at_call 8; refine (unhide (HA _)).mono ?_; rintro e w2 ⟨rfl, hb2⟩))
    go_ret
    exact ⟨rfl, (HB0.out.trans (hb1.mono HB0.out.size)).trans (hb2.mono (Nat.le_trans HB0.out.size hb1.size))⟩
  · rw [h] at L1
    replace L1 := hide L1
    have h1' : ¬ (60 : Int) < css.length := by omega
    clear hg hb0 hblk h LA hA
    go_enter Try.func3, Try.ntmps3
    go_wp2_with (first | (go_at_call 6; refine (unhide L1).mono ?_; rintro e w1 ⟨rfl, hb1⟩; have k1 := (hb1.cell (p := ⟨w.heap.size, 1, none⟩) (by simp)).trans (cell_of_block HK.out (i := 1) rfl); have k0 := (hb1.cell (p := ⟨w.heap.size, 0, none⟩) (by simp)).trans (cell_of_block HK.out (i := 0) rfl)) | (go_at_call 8; refine (unhide (HA _)).mono ?_; rintro e w2 ⟨rfl, hb2⟩))
    go_ret
    exact ⟨rfl, (HB0.out.trans (hb1.mono HB0.out.size)).trans (hb2.mono (Nat.le_trans HB0.out.size hb1.size))⟩
  · rw [h] at L1
    replace L1 := hide L1
    have h1' : ¬ (60 : Int) < css.length := by omega
    have LA' : Hid (∀ x, Below w.heap.size w x → Calls Try.prog 7 #[.slice al L.length cal] x fun e w' => e = .returned (.bool false) ∧ w' = x) := fun x hx => by have := (LA x hx).out; rw [h3] at this; exact this
    clear hg hb0 hblk h LA hA h3
    go_enter Try.func3, Try.ntmps3
    go_wp2_with (first | (go_at_call 6; refine (unhide L1).mono ?_; rintro e w1 ⟨rfl, hb1⟩; have k1 := (hb1.cell (p := ⟨w.heap.size, 1, none⟩) (by simp)).trans (cell_of_block HK.out (i := 1) rfl); have k0 := (hb1.cell (p := ⟨w.heap.size, 0, none⟩) (by simp)).trans (cell_of_block HK.out (i := 0) rfl); have hb1w := HB0.out.trans (hb1.mono HB0.out.size)) | (go_at_call 7; refine (LA'.out _ hb1w).mono ?_; rintro e w0 ⟨rfl, hw0⟩; subst w0) | (go_at_call 8; refine (unhide (HA _)).mono ?_; rintro e w2 ⟨rfl, hb2⟩))
    go_ret
    exact ⟨rfl, hb1w.trans (hb2.mono hb1w.size)⟩

set_option maxHeartbeats 4000000 in
set_option maxRecDepth 100000 in
theorem runs_bad (a al : Option Addr) (cap cal : Nat) (n : Int) (css : List (List Int)) (L : List ActD) (w : World) (hg : Grid w a css) (hl : css.length ≤ maxLen) (hA : Acts w al L) (hll : L.length ≤ maxLen)
    (h : lightB css = true) (h1 : ¬ 60 < css.length) (h2 : ¬ 60 < n) (h3 : lightA L = true) (h4 : cnfB n css = false) :
    Calls Try.prog 3 #[.agg #[.int .i64 n, .slice a css.length cap], .slice al L.length cal] w fun e w' => e = .returned (.bool true) ∧ Below w.heap.size w w' := by
  have hb0 := below_alloc w (.cells #[.int .i64 n, .slice a css.length cap] 24)
  have L1 := light_any a cap n css _ (hg.below hb0) hl
  rw [h] at L1
  replace L1 := hide L1
  have LA : Hid (∀ x, Below w.heap.size w x → Calls Try.prog 7 #[.slice al L.length cal] x fun e w' => e = .returned (.bool true) ∧ w' = x) := fun x hx => by have := lightA_any al cal L x (hA.below hx) hll; rw [h3] at this; exact this
  have HC : Hid (∀ x, Below w.heap.size w x → Calls Try.prog 9 #[.agg #[.int .i64 n, .slice a css.length cap]] x fun e w' => e = .returned (.bool false) ∧ Below x.heap.size x w') := fun x hx => by have := refCnf_any a cap n css x (hg.below hx) hl; rw [h4] at this; exact this
  have NW : Hid (∀ x, Below w.heap.size w x → Calls Try.prog 10 #[.agg #[.int .i64 n, .slice a css.length cap]] x fun e w' => e = .returned (.tuple #[.pointer none, .int .i64 1]) ∧ Below x.heap.size x w') := fun x hx => new_no a cap n css x (hg.below hx) hl h4
  have HA := fun x => hide (awake_any x)
  have HB0 := hide hb0
  have HK := hide (heap_alloc_new w (.cells #[.int .i64 n, .slice a css.length cap] 24))
  unfold maxLen at hl hll
  have h1' : ¬ (60 : Int) < css.length := by omega
  clear hg hb0 h hA h3 h4
  go_enter Try.func3, Try.ntmps3
  go_wp2_with (first | (go_at_call 6; refine (unhide L1).mono ?_; rintro e w1 ⟨rfl, hb1⟩; have k1 := (hb1.cell (p := ⟨w.heap.size, 1, none⟩) (by simp)).trans (cell_of_block HK.out (i := 1) rfl); have k0 := (hb1.cell (p := ⟨w.heap.size, 0, none⟩) (by simp)).trans (cell_of_block HK.out (i := 0) rfl); have hb1w := HB0.out.trans (hb1.mono HB0.out.size); have hlt1 : w.heap.size < w1.heap.size := Nat.lt_of_lt_of_le (by simp) hb1.size) | (go_at_call 7; refine (LA.out _ hb1w).mono ?_; rintro e w0 ⟨rfl, hw0⟩; subst w0) | (go_at_call 9; refine (HC.out _ hb1w).mono ?_; rintro e w2 ⟨rfl, hb2⟩; have j1 := (hb2.cell (p := ⟨w.heap.size, 1, none⟩) hlt1).trans k1; have j0 := (hb2.cell (p := ⟨w.heap.size, 0, none⟩) hlt1).trans k0; have hb2w := hb1w.trans (hb2.mono hb1w.size)) | (go_at_call 10; refine (NW.out _ hb2w).mono ?_; rintro e w3 ⟨rfl, hb3⟩; have hb3w := hb2w.trans (hb3.mono hb2w.size)) | (go_at_call 8; refine (unhide (HA _)).mono ?_; rintro e w4 ⟨rfl, hb4⟩))
  go_ret
  exact ⟨rfl, hb3w.trans (hb4.mono hb3w.size)⟩
end Go.Proofs.Ytlmbgaconjcaiaa

namespace Go.Proofs.Ytlmbgaconjcaiaa
open Go.ChangeShapes Go.WideShapes Go.ChangeAt Go.RowKit Go.Joins Go.Deep

theorem Try.cells41 : Try.prog.cellsOf 41 = 3 := by kernel_rfl

theorem slice_rowC {H : Type} {enc : TypeId × Value → H} {W : World} {fuel : Nat} {cs : List Value} {y : DataW H × List MemPlace} (hf : DataW.trod enc Try.prog W 0 (fun _ => true) true fuel 34 cs = some y) :
    ∃ a xs cap, cs = [.slice a xs.length cap] ∧ Row W a xs ∧ xs.length ≤ maxLen ∧ (a = none → cap = 0) := by
  rcases open_ints Try.underlying34 Try.underlying3 Try.cells3 hf with ⟨hcs, _⟩ | ⟨x, l, c, zs, hcs, _, hl, hm, hz, _, hcell, hwz⟩
  · exact ⟨none, [], 0, hcs, fun i hi => by simp at hi, by simp, fun _ => rfl⟩
  · obtain ⟨xs, e, hr, hx⟩ := row_of (w := W) (a := some x) (len := l) (cap := c) (zs := zs) (.inr ⟨_, rfl, hl, hm, by simpa using hz, hcell, hwz⟩)
    subst e
    exact ⟨some x, xs, c, hcs, hr, hx, by simp⟩

set_option maxRecDepth 100000 in
theorem act_row {H : Type} {enc : TypeId × Value → H} {W : World} {n : Nat} {cs : List Value} {x : DataW H × List MemPlace} (h : DataW.trod enc Try.prog W 0 (fun _ => true) true n 41 cs = some x) (hlen : cs.length = 3) :
    ∃ (t : ActD) (ai : Option Addr) (ci : Nat), cs = [.int .i64 t.d, .int .i64 t.l, .slice ai t.c.length ci] ∧ Row W ai t.c ∧ t.c.length ≤ maxLen ∧ (ai = none → ci = 0) := by
  obtain ⟨xs, k, hk, hxy, _, hxl, hf⟩ := DataW.trod_struct Try.underlying41 h
  match xs, hxl, cs, hlen with
  | [y0, y1, y2], _, [v0, v1, v2], _ =>
    have g0 := hf 0 _ rfl
    have g1 := hf 1 _ rfl
    have g2 := hf 2 _ rfl
    simp [Try.cells3, Try.cells34] at g0 g1 g2
    obtain ⟨d, e0, -, _⟩ := DataW.trod_int Try.underlying3 g0
    obtain ⟨l, e1, -, _⟩ := DataW.trod_int Try.underlying3 g1
    obtain ⟨ai, c, ci, e2, hr, hl, hn⟩ := slice_rowC g2
    simp at e0 e1 e2
    subst e0 e1 e2
    exact ⟨⟨d, l, c⟩, ai, ci, rfl, hr, hl, hn⟩

structure ActAt' (w : World) (a : Addr) (k : Nat) (x : ActD) (ai : Option Addr) (ci : Nat) : Prop where
  c0 : w.cell? (a.add (k * 3)) = some (.int .i64 x.d)
  c1 : w.cell? (a.add (k * 3 + 1)) = some (.int .i64 x.l)
  c2 : w.cell? (a.add (k * 3 + 2)) = some (.slice ai x.c.length ci)
  row : Row w ai x.c
  len : x.c.length ≤ maxLen
  nil : ai = none → ci = 0

set_option maxRecDepth 100000 in
theorem acts_open {H : Type} {enc : TypeId × Value → H} {W : World} {base : Nat} {v : Value} {d : DataW H} {p : List MemPlace} (hv : Value.okWide Try.prog W .any base 25 v) (h : DataW.Trod enc Try.prog W 0 (fun _ => true) true 25 v d p) :
    ∃ a l cap, v = .slice a l.length cap ∧ Acts W a l ∧ l.length ≤ maxLen := by
  obtain ⟨a0, len0, cap0, rfl⟩ := okWide_slice Try.underlying25 hv
  obtain ⟨fuel, hf⟩ := h
  rcases open_slice Try.underlying25 hf with ⟨hcs, _⟩ | ⟨a, len, cap, m, n, D, Pl, hcs, _, hl, hm, hmm, _, hx⟩
  · simp [Value.cells] at hcs
    obtain ⟨rfl, rfl, rfl⟩ := hcs
    exact ⟨none, [], 0, rfl, fun k hk => by simp at hk, by simp⟩
  · simp [Value.cells] at hcs
    obtain ⟨rfl, rfl, rfl⟩ := hcs
    have each : ∀ i, i < len0 → ∃ q : ActD × Option Addr × Nat, ActAt' W a i q.1 q.2.1 q.2.2 := by
      intro i hi
      obtain ⟨cs', h1, h2⟩ := hx i (by rw [hmm]; simp; omega)
      rw [Try.cells41] at h1
      obtain ⟨_, hlen, hcell⟩ := World.cells?_some h1
      obtain ⟨t, ai, ci, rfl, hr, hl', hn⟩ := act_row h2 hlen
      refine ⟨(t, ai, ci), ?_, ?_, ?_, hr, hl', hn⟩
      · have := hcell 0 (by omega); rw [add_add] at this; simpa using this
      · have := hcell 1 (by omega); rw [add_add] at this; simpa using this
      · have := hcell 2 (by omega); rw [add_add] at this; simpa using this
    have inh : Inhabited (ActD × Option Addr × Nat) := ⟨(⟨0, 0, []⟩, none, 0)⟩
    obtain ⟨q, hq⟩ := choose_lt each
    have hlen : ((List.range len0).map fun i => (q i).1).length = len0 := by simp
    refine ⟨some a, (List.range len0).map fun i => (q i).1, cap0, by rw [hlen], fun k hk => ?_, by omega⟩
    have hk' : k < len0 := by omega
    obtain ⟨b, off, spot⟩ := a
    have hspot : spot = none := by simpa [Addr.add] using World.cell?_spot (hq 0 (by omega)).c0
    subst hspot
    have H := hq k hk'
    have ek : ((List.range len0).map fun i => (q i).1)[k] = (q k).1 := by simp
    refine ⟨b, off, (q k).2.1, (q k).2.2, rfl, ?_, ?_⟩
    · have := H.c0; rw [Addr.add_lit] at this; exact World.block_lt_of_cell? W _ this
    · rw [ek]
      have h0 := H.c0
      have h1 := H.c1
      have h2 := H.c2
      rw [Addr.add_lit] at h0 h1 h2
      simp only [← Nat.add_assoc] at h1 h2
      exact ⟨h0, h1, h2, H.row, H.len, H.nil⟩

set_option maxRecDepth 100000 in
theorem grid_rowC {H : Type} {enc : TypeId × Value → H} {W : World} {fuel : Nat} {cs : List Value} {y : DataW H × List MemPlace} (hf : DataW.trod enc Try.prog W 0 (fun _ => true) true fuel 22 cs = some y) :
    ∃ a css cap, cs = [.slice a css.length cap] ∧ GridC W a css ∧ css.length ≤ maxLen ∧ (a = none → cap = 0) := by
  rcases open_int_rows Try.underlying22 Try.underlying34 Try.underlying3 Try.cells34 Try.cells3 hf with ⟨hcs, _⟩ | ⟨a, len, cap, A, L, C, Z, hcs, _, hl, hm, _, hall⟩
  · exact ⟨none, [], 0, hcs, fun i hi => by simp at hi, by simp, fun _ => rfl⟩
  · have hlen : ((List.range len).map fun r => (Z r).take (L r)).length = len := by simp
    refine ⟨some a, (List.range len).map fun r => (Z r).take (L r), cap, by rw [hlen]; exact hcs, ?_, by omega, by simp⟩
    intro i hi
    have hi' : i < len := by omega
    have hic : i < cap := by omega
    obtain ⟨hc0, -⟩ := hall 0 (by omega)
    obtain ⟨b, off, spot⟩ := a
    have hspot : spot = none := by simpa [Addr.add] using World.cell?_spot hc0
    subst hspot
    obtain ⟨hc, h1, h2, h3, h4, h5, h6⟩ := hall i hic
    rw [add_plain] at hc
    have ei : ((List.range len).map fun r => (Z r).take (L r))[i] = (Z i).take (L i) := by simp
    obtain ⟨xs, e, hr, hx⟩ : ∃ xs, L i = xs.length ∧ Row W (A i) xs ∧ xs = (Z i).take (L i) := by
      have hlt : ((Z i).take (L i)).length = L i := by simp; omega
      refine ⟨_, hlt.symm, ?_, rfl⟩
      intro j hj
      cases hA : A i with
      | none => have := h5 hA; omega
      | some a' =>
        obtain ⟨-, hcell⟩ := h6 a' hA
        have hc' : ∀ c, c < (Z i).length → W.cell? (a'.add c) = some (.int .i64 ((Z i).getD c 0)) := fun c h => hcell c (by omega)
        obtain ⟨b', off', rfl, hc''⟩ := ints_at hc' (by omega)
        have hj' : j < (Z i).length := by omega
        have := hc'' j hj'
        refine ⟨b', off', rfl, World.block_lt_of_cell? W _ this, ?_⟩
        rw [this, List.getElem_take, List.getD_eq_getElem?_getD, List.getElem?_eq_getElem hj']; rfl
    refine ⟨b, off, A i, C i, rfl, World.block_lt_of_cell? W _ hc, ?_, ?_, ?_, h5⟩
    · rw [ei, ← hx, ← e]; exact hc
    · rw [ei, ← hx]; exact hr
    · rw [ei, ← hx, ← e]; omega

set_option maxRecDepth 100000 in
theorem cnf_openC {H : Type} {enc : TypeId × Value → H} {W : World} {base : Nat} {v : Value} {d : DataW H} {p : List MemPlace} (hv : Value.okWide Try.prog W .any base 24 v) (h : DataW.Trod enc Try.prog W 0 (fun _ => true) true 24 v d p) :
    ∃ (n : Int) (a : Option Addr) (css : List (List Int)) (cap : Nat), v = .agg #[.int .i64 n, .slice a css.length cap] ∧ GridC W a css ∧ css.length ≤ maxLen ∧ (a = none → cap = 0) := by
  obtain ⟨c0, c1, y0, y1, f, rfl, -, -, hy0, hy1⟩ := open_agg2 Try.underlying24 (by kernel_rfl) Try.cells24 hv h
  obtain ⟨n, e0, -, wn⟩ := DataW.trod_int Try.underlying3 hy0
  obtain ⟨a, css, cap, e1, hg, hl, hn⟩ := grid_rowC hy1
  simp at e0 e1
  subst e0 e1
  exact ⟨n, a, css, cap, rfl, hg, hl, hn⟩
end Go.Proofs.Ytlmbgaconjcaiaa
