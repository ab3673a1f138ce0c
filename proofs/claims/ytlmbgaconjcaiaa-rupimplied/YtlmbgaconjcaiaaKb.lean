/- Contracts: whether the law takes a literal for open. -/
import Derived.Test.YtlmbgaconjcaiaaHd
import Derived.Deep.RegionWith
import Derived.Deep.RegionHeld3
import Derived.BigQuiet
set_option linter.unusedVariables false
set_option linter.unusedSimpArgs false
namespace Go.Proofs.Ytlmbgaconjcaiaa
open Go.RowKit

def openB (V : Nat) (t : List Int) (l : Int) : Bool := litB l 1048576 && decide (varI l ≤ V) && !(hasB t l) && !(hasB t (-l))

section
variable {ρ : Nat → Rl} {w : World} {B : Nat} {H : Hd} {s : PS}

set_option maxHeartbeats 40000000 in
set_option maxRecDepth 100000 in
theorem open_any (h : Rep ρ w B H s) (hn : s.trail.length ≤ 1048576) (V : Nat) (hV : V ≤ 1048576) (a2 a3 a4 : Option Addr) (n2 c2 n3 c3 n4 c4 : Nat) (l : Int) :
    Calls Try.prog 33 #[.agg #[.pointer (some ⟨B, 0, none⟩), .int .i64 V, .slice a2 n2 c2, .slice a3 n3 c3, .slice a4 n4 c4], .int .i64 l] w fun e w' => e = .returned (.bool (openB V s.trail l)) ∧ Below w.heap.size w w' := by
  have hbW := below_alloc w (.cells #[.pointer (some ⟨B, 0, none⟩), .int .i64 V, .slice a2 n2 c2, .slice a3 n3 c3, .slice a4 n4 c4] 36)
  have hR := h.alloc (.cells #[.pointer (some ⟨B, 0, none⟩), .int .i64 V, .slice a2 n2 c2, .slice a3 n3 c3, .slice a4 n4 c4] 36)
  have hblk := heap_alloc_new w (.cells #[.pointer (some ⟨B, 0, none⟩), .int .i64 V, .slice a2 n2 c2, .slice a3 n3 c3, .slice a4 n4 c4] 36)
  have hlt : w.heap.size < (w.alloc (.cells #[.pointer (some ⟨B, 0, none⟩), .int .i64 V, .slice a2 n2 c2, .slice a3 n3 c3, .slice a4 n4 c4] 36)).heap.size := by simp
  have HB := hide hbW
  have HR := hide hR
  have HK := hide hblk
  have HL := hide hlt
  clear h hR hblk hbW hlt
  have LT : ∀ (r : Bool), litB l 1048576 = r → ∀ W, Hid (Calls Try.prog 53 #[.int .i64 l] W fun e w' => e = .returned (.bool r) ∧ w' = W) := fun r hr W => by have := lit_any l W; rw [hr] at this; exact this
  cases h1 : litB l 1048576 with
  | false =>
    have HE : Hid (openB V s.trail l = false) := by unfold Hid openB; rw [h1]; rfl
    have L1 := LT false h1
    clear LT h1
    go_enter Try.func33, Try.ntmps33
    go_wp2_with fail
    go_quiet (first | (go_at_call 53; exact Calls.quiet_of_same (unhide (L1 _))))
    go_wp2_with fail
    go_ret
    exact ⟨ret_bool HE.out.symm, ⟨HB.out.os, HB.out.tape, HB.out.output, HB.out.size, HB.out.block⟩⟩
  | true =>
    have L1 := LT true h1
    have hl : l ≠ 0 ∧ -1048576 ≤ l ∧ l ≤ 1048576 := by simpa [litB] using h1
    have L2 := fun W => hide (var_any l W hl.2.1 hl.2.2)
    have b0 : (w.alloc (.cells #[.pointer (some ⟨B, 0, none⟩), .int .i64 V, .slice a2 n2 c2, .slice a3 n3 c3, .slice a4 n4 c4] 36)).cell? ⟨w.heap.size, 0, none⟩ = some (.pointer (some ⟨B, 0, none⟩)) := cell_of_block HK.out rfl
    by_cases h2 : varI l ≤ V
    · have h2' : decide (varI l ≤ V) = true := decide_eq_true h2
      have TR1 := hide (propTrail_any HR.out.drew hn)
      have b1 : (w.alloc (.cells #[.pointer (some ⟨B, 0, none⟩), .int .i64 V, .slice a2 n2 c2, .slice a3 n3 c3, .slice a4 n4 c4] 36)).cell? ⟨w.heap.size, 1, none⟩ = some (.int .i64 V) := cell_of_block HK.out rfl
      have HX : Hid (∀ (a : Option Addr) (cap : Nat) (n : Int) (W : World), Row W a s.trail → Calls Try.prog 40 #[.slice a s.trail.length cap, .int .i64 n] W fun e w' => e = .returned (.bool (hasB s.trail n)) ∧ w' = W) := fun a cap n W hr => has_any a cap s.trail n W hr (by unfold maxLen; omega)
      have hwr : IntKind.i64.wrap (-l) = -l := wrap_neg (by omega) (by omega)
      have hb0 := HB.out
      cases h3 : hasB s.trail l with
      | true =>
        have HE : Hid (openB V s.trail l = false) := by unfold Hid openB; rw [h3]; simp
        clear LT h1 hb0
        generalize varI l = x at *
        go_enter Try.func33, Try.ntmps33
        go_wp2_with fail
        first | (go_region_with (first | (go_at_call 53; refine (unhide (L1 _)).mono ?_; rintro e w' ⟨rfl, rfl⟩) | (go_at_call 30; refine (unhide (L2 _)).mono ?_; rintro e w' ⟨rfl, rfl⟩) | (go_at_call 15; refine (unhide TR2).mono ?_; rintro e w3 ⟨v3, rfl, ho3, hb3⟩; obtain ⟨tb, tcb, rfl, hrow3, hlen3, _⟩ := Own.row ho3; have k03 := (hb3.cell (p := ⟨w.heap.size, 0, none⟩) (Nat.lt_of_lt_of_le HL.out hb.size)).trans k0; have k13 := (hb3.cell (p := ⟨w.heap.size, 1, none⟩) (Nat.lt_of_lt_of_le HL.out hb.size)).trans k1) | (go_at_call 15; refine (unhide TR1).mono ?_; rintro e w2 ⟨v, rfl, ho, hb⟩; obtain ⟨ta, tc, rfl, hrow, hlen, _⟩ := Own.row ho; have k0 := (hb.cell (p := ⟨w.heap.size, 0, none⟩) HL.out).trans b0; have k1 := (hb.cell (p := ⟨w.heap.size, 1, none⟩) HL.out).trans b1; have TR2 := hide (propTrail_any (HR.out.drew.below hb) hn)) | (go_at_call 40; refine (HX.out _ _ _ _ (by assumption)).mono ?_; rintro e w' ⟨rfl, rfl⟩; rw [h3]))) | fail
        all_goals
          go_wp2_with fail
          go_ret
          exact ⟨ret_bool HE.out.symm, HB.out.trans (Below.mono (B' := w.heap.size) ⟨hb.os, hb.tape, hb.output, hb.size, hb.block⟩ HB.out.size)⟩
      | false =>
        cases h4 : hasB s.trail (-l) with
        | true =>
          have HE : Hid (openB V s.trail l = false) := by unfold Hid openB; rw [h4]; simp
          clear LT h1 hb0
          generalize varI l = x at *
          go_enter Try.func33, Try.ntmps33
          go_wp2_with fail
          go_region_held3 (fun w' => w'.cell? ⟨w.heap.size, 0, none⟩ = some (.pointer (some ⟨B, 0, none⟩)) ∧ w'.cell? ⟨w.heap.size, 1, none⟩ = some (.int .i64 V)) (first | exact ⟨by assumption, by assumption⟩ | go_keep) (first | (go_at_call 53; refine (unhide (L1 _)).mono ?_; rintro e w' ⟨rfl, rfl⟩) | (go_at_call 30; refine (unhide (L2 _)).mono ?_; rintro e w' ⟨rfl, rfl⟩) | (go_at_call 15; refine (unhide TR2).mono ?_; rintro e w3 ⟨v3, rfl, ho3, hb3⟩; obtain ⟨tb, tcb, rfl, hrow3, hlen3, _⟩ := Own.row ho3; have k03 := (hb3.cell (p := ⟨w.heap.size, 0, none⟩) (Nat.lt_of_lt_of_le HL.out hb.size)).trans k0; have k13 := (hb3.cell (p := ⟨w.heap.size, 1, none⟩) (Nat.lt_of_lt_of_le HL.out hb.size)).trans k1) | (go_at_call 15; refine (unhide TR1).mono ?_; rintro e w2 ⟨v, rfl, ho, hb⟩; obtain ⟨ta, tc, rfl, hrow, hlen, _⟩ := Own.row ho; have k0 := (hb.cell (p := ⟨w.heap.size, 0, none⟩) HL.out).trans b0; have k1 := (hb.cell (p := ⟨w.heap.size, 1, none⟩) HL.out).trans b1; have TR2 := hide (propTrail_any (HR.out.drew.below hb) hn)) | (go_at_call 40; refine (HX.out _ _ _ _ (by assumption)).mono ?_; rintro e w' ⟨rfl, rfl⟩; first | rw [h3] | rw [h4]))
          all_goals
            go_wp2_with fail
            go_ret
            exact ⟨ret_bool HE.out.symm, (HB.out.trans (Below.mono (B' := w.heap.size) ⟨hb.os, hb.tape, hb.output, hb.size, hb.block⟩ HB.out.size)).trans (hb3.mono (Nat.le_trans HB.out.size hb.size))⟩
        | false =>
          have HE : Hid (openB V s.trail l = true) := by unfold Hid openB; rw [h1, h2', h3, h4]; rfl
          clear LT h1 hb0
          generalize varI l = x at *
          go_enter Try.func33, Try.ntmps33
          go_wp2_with fail
          go_region_held3 (fun w' => w'.cell? ⟨w.heap.size, 0, none⟩ = some (.pointer (some ⟨B, 0, none⟩)) ∧ w'.cell? ⟨w.heap.size, 1, none⟩ = some (.int .i64 V)) (first | exact ⟨by assumption, by assumption⟩ | go_keep) (first | (go_at_call 53; refine (unhide (L1 _)).mono ?_; rintro e w' ⟨rfl, rfl⟩) | (go_at_call 30; refine (unhide (L2 _)).mono ?_; rintro e w' ⟨rfl, rfl⟩) | (go_at_call 15; refine (unhide TR2).mono ?_; rintro e w3 ⟨v3, rfl, ho3, hb3⟩; obtain ⟨tb, tcb, rfl, hrow3, hlen3, _⟩ := Own.row ho3; have k03 := (hb3.cell (p := ⟨w.heap.size, 0, none⟩) (Nat.lt_of_lt_of_le HL.out hb.size)).trans k0; have k13 := (hb3.cell (p := ⟨w.heap.size, 1, none⟩) (Nat.lt_of_lt_of_le HL.out hb.size)).trans k1) | (go_at_call 15; refine (unhide TR1).mono ?_; rintro e w2 ⟨v, rfl, ho, hb⟩; obtain ⟨ta, tc, rfl, hrow, hlen, _⟩ := Own.row ho; have k0 := (hb.cell (p := ⟨w.heap.size, 0, none⟩) HL.out).trans b0; have k1 := (hb.cell (p := ⟨w.heap.size, 1, none⟩) HL.out).trans b1; have TR2 := hide (propTrail_any (HR.out.drew.below hb) hn)) | (go_at_call 40; refine (HX.out _ _ _ _ (by assumption)).mono ?_; rintro e w' ⟨rfl, rfl⟩; first | rw [h3] | rw [h4]))
          all_goals
            go_wp2_with fail
            go_ret
            exact ⟨ret_bool HE.out.symm, (HB.out.trans (Below.mono (B' := w.heap.size) ⟨hb.os, hb.tape, hb.output, hb.size, hb.block⟩ HB.out.size)).trans (hb3.mono (Nat.le_trans HB.out.size hb.size))⟩
    · have HE : Hid (openB V s.trail l = false) := by unfold Hid openB; rw [decide_eq_false h2]; simp
      have h2' : decide (varI l ≤ V) = false := decide_eq_false h2
      clear LT h1 HR hn
      generalize varI l = x at *
      go_enter Try.func33, Try.ntmps33
      go_wp2_with fail
      go_quiet (first | (go_at_call 53; exact Calls.quiet_of_same (unhide (L1 _))) | (go_at_call 30; exact Calls.quiet_of_same (unhide (L2 _))))
      go_wp2_with fail
      go_ret
      exact ⟨ret_bool HE.out.symm, ⟨HB.out.os, HB.out.tape, HB.out.output, HB.out.size, HB.out.block⟩⟩
end
end Go.Proofs.Ytlmbgaconjcaiaa
