/- The law of one run more: of what is not light, or no formula. -/
import Derived.Test.YtlmbgaconjcaiaaNk
set_option linter.unusedVariables false
set_option linter.unusedSimpArgs false
namespace Go.Proofs.Ytlmbgaconjcaiaa
open Go.RowKit

set_option maxHeartbeats 4000000 in
set_option maxRecDepth 100000 in
theorem once_dark (a al : Option Addr) (cap cal : Nat) (n : Int) (css : List (List Int)) (L : List ActD) (w : World) (hg : Grid w a css) (hl : css.length ≤ maxLen) (hA : Acts w al L) (hll : L.length ≤ maxLen)
    (hno : lightB css = false ∨ (lightB css = true ∧ 60 < css.length) ∨ (lightB css = true ∧ ¬ 60 < css.length ∧ 60 < n) ∨ (lightB css = true ∧ ¬ 60 < css.length ∧ ¬ 60 < n ∧ lightA L = false) ∨ (lightB css = true ∧ ¬ 60 < css.length ∧ ¬ 60 < n ∧ lightA L = true ∧ cnfB n css = false)) :
    Calls Try.prog 4 #[.agg #[.int .i64 n, .slice a css.length cap], .slice al L.length cal] w fun e w' => e = .returned (.bool true) ∧ Below w.heap.size w w' := by
  have hb0 := below_alloc w (.cells #[.int .i64 n, .slice a css.length cap] 24)
  have L1 := light_any a cap n css _ (hg.below hb0) hl
  have LA : ∀ x, Below w.heap.size w x → Hid (Calls Try.prog 7 #[.slice al L.length cal] x fun e w' => e = .returned (.bool (lightA L)) ∧ w' = x) := fun x hx => lightA_any al cal L x (hA.below hx) hll
  have HC0 : ∀ x, Below w.heap.size w x → Hid (Calls Try.prog 9 #[.agg #[.int .i64 n, .slice a css.length cap]] x fun e w' => e = .returned (.bool (cnfB n css)) ∧ Below x.heap.size x w') := fun x hx => refCnf_any a cap n css x (hg.below hx) hl
  have HA := fun x => hide (awake_any x)
  have HB0 := hide hb0
  have hblk := heap_alloc_new w (.cells #[.int .i64 n, .slice a css.length cap] 24)
  have HK := hide hblk
  unfold maxLen at hl hll
  rcases hno with h | ⟨h, h1⟩ | ⟨h, h1, h2⟩ | ⟨h, h1, h2, h3⟩ | ⟨h, h1, h2, h3, h4⟩
  · rw [h] at L1
    replace L1 := hide L1
    clear hg hb0 hblk h LA hA HC0
    go_enter Try.func4, Try.ntmps4
    go_wp2_with (first | (go_at_call 6; refine (unhide L1).mono ?_; rintro e w1 ⟨rfl, hb1⟩) | (go_at_call 8; refine (unhide (HA _)).mono ?_; rintro e w2 ⟨rfl, hb2⟩))
    go_ret
    exact ⟨rfl, (HB0.out.trans (hb1.mono HB0.out.size)).trans (hb2.mono (Nat.le_trans HB0.out.size hb1.size))⟩
  · rw [h] at L1
    replace L1 := hide L1
    have h1' : (60 : Int) < css.length := by omega
    clear hg hb0 hblk h LA hA HC0
    go_enter Try.func4, Try.ntmps4
    go_wp2_with (first | (go_at_call 6; refine (unhide L1).mono ?_; rintro e w1 ⟨rfl, hb1⟩; have k1 := (hb1.cell (p := ⟨w.heap.size, 1, none⟩) (by simp)).trans (cell_of_block HK.out (i := 1) rfl); have k0 := (hb1.cell (p := ⟨w.heap.size, 0, none⟩) (by simp)).trans (cell_of_block HK.out (i := 0) rfl)) | (go_at_call 8; refine (unhide (HA _)).mono ?_; rintro e w2 ⟨rfl, hb2⟩))
    go_ret
    exact ⟨rfl, (HB0.out.trans (hb1.mono HB0.out.size)).trans (hb2.mono (Nat.le_trans HB0.out.size hb1.size))⟩
  · rw [h] at L1
    replace L1 := hide L1
    have h1' : ¬ (60 : Int) < css.length := by omega
    clear hg hb0 hblk h LA hA HC0
    go_enter Try.func4, Try.ntmps4
    go_wp2_with (first | (go_at_call 6; refine (unhide L1).mono ?_; rintro e w1 ⟨rfl, hb1⟩; have k1 := (hb1.cell (p := ⟨w.heap.size, 1, none⟩) (by simp)).trans (cell_of_block HK.out (i := 1) rfl); have k0 := (hb1.cell (p := ⟨w.heap.size, 0, none⟩) (by simp)).trans (cell_of_block HK.out (i := 0) rfl)) | (go_at_call 8; refine (unhide (HA _)).mono ?_; rintro e w2 ⟨rfl, hb2⟩))
    go_ret
    exact ⟨rfl, (HB0.out.trans (hb1.mono HB0.out.size)).trans (hb2.mono (Nat.le_trans HB0.out.size hb1.size))⟩
  · rw [h] at L1
    replace L1 := hide L1
    have h1' : ¬ (60 : Int) < css.length := by omega
    have LA' : Hid (∀ x, Below w.heap.size w x → Calls Try.prog 7 #[.slice al L.length cal] x fun e w' => e = .returned (.bool false) ∧ w' = x) := fun x hx => by have := (LA x hx).out; rw [h3] at this; exact this
    clear hg hb0 hblk h LA hA h3 HC0
    go_enter Try.func4, Try.ntmps4
    go_wp2_with (first | (go_at_call 6; refine (unhide L1).mono ?_; rintro e w1 ⟨rfl, hb1⟩; have k1 := (hb1.cell (p := ⟨w.heap.size, 1, none⟩) (by simp)).trans (cell_of_block HK.out (i := 1) rfl); have k0 := (hb1.cell (p := ⟨w.heap.size, 0, none⟩) (by simp)).trans (cell_of_block HK.out (i := 0) rfl); have hb1w := HB0.out.trans (hb1.mono HB0.out.size)) | (go_at_call 7; refine (LA'.out _ hb1w).mono ?_; rintro e w0 ⟨rfl, hw0⟩; subst w0) | (go_at_call 8; refine (unhide (HA _)).mono ?_; rintro e w2 ⟨rfl, hb2⟩))
    go_ret
    exact ⟨rfl, hb1w.trans (hb2.mono hb1w.size)⟩
  · rw [h] at L1
    replace L1 := hide L1
    have h1' : ¬ (60 : Int) < css.length := by omega
    have LA' : Hid (∀ x, Below w.heap.size w x → Calls Try.prog 7 #[.slice al L.length cal] x fun e w' => e = .returned (.bool true) ∧ w' = x) := fun x hx => by have := (LA x hx).out; rw [h3] at this; exact this
    have HC : Hid (∀ x, Below w.heap.size w x → Calls Try.prog 9 #[.agg #[.int .i64 n, .slice a css.length cap]] x fun e w' => e = .returned (.bool false) ∧ Below x.heap.size x w') := fun x hx => by have := (HC0 x hx).out; rw [h4] at this; exact this
    clear hg hb0 hblk h LA hA h3 HC0 h4
    go_enter Try.func4, Try.ntmps4
    go_wp2_with (first | (go_at_call 6; refine (unhide L1).mono ?_; rintro e w1 ⟨rfl, hb1⟩; have k1 := (hb1.cell (p := ⟨w.heap.size, 1, none⟩) (by simp)).trans (cell_of_block HK.out (i := 1) rfl); have k0 := (hb1.cell (p := ⟨w.heap.size, 0, none⟩) (by simp)).trans (cell_of_block HK.out (i := 0) rfl); have hb1w := HB0.out.trans (hb1.mono HB0.out.size)) | (go_at_call 7; refine (LA'.out _ hb1w).mono ?_; rintro e w0 ⟨rfl, hw0⟩; subst w0) | (go_at_call 9; refine (HC.out _ hb1w).mono ?_; rintro e w3 ⟨rfl, hb3⟩; have hb3w := hb1w.trans (hb3.mono hb1w.size)) | (go_at_call 8; refine (unhide (HA _)).mono ?_; rintro e w2 ⟨rfl, hb2⟩))
    go_ret
    exact ⟨rfl, hb3w.trans (hb2.mono hb3w.size)⟩

end Go.Proofs.Ytlmbgaconjcaiaa
