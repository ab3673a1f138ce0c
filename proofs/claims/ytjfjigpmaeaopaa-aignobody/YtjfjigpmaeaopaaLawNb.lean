/- The law of nobody's graph, its loop. -/
import Derived.Test.YtjfjigpmaeaopaaLawN
set_option linter.unusedVariables false
set_option linter.unusedSimpArgs false
namespace Go.Proofs.Ytjfjigpmaeaopaa
open Go.RowKit Go.Maps

set_option maxHeartbeats 4000000 in
set_option maxRecDepth 100000 in
theorem nobody_any (w : World) (d a b c : Int) (ha : inI64 a) (hb : inI64 b) (hc : inI64 c) :
    Calls Try.prog 7 #[.agg #[.int .i64 d, .int .i64 a, .int .i64 b, .int .i64 c]] w fun e w' => e = .returned (.bool true) ∧ Below w.heap.size w w' := by
  have HB0 := hide (below_alloc w (.cells #[.int .i64 d, .int .i64 a, .int .i64 b, .int .i64 c] 35))
  have hcell : ∀ i v, #[Value.int .i64 d, .int .i64 a, .int .i64 b, .int .i64 c][i]? = some v → (w.alloc (.cells #[.int .i64 d, .int .i64 a, .int .i64 b, .int .i64 c] 35)).cell? ⟨w.heap.size, i, none⟩ = some v := by
    intro i v h
    have h0 := (MapKept.heap_alloc w (.cells #[.int .i64 d, .int .i64 a, .int .i64 b, .int .i64 c] 35)).1
    simp only [World.cell?, h0]; exact h
  have y1 := hcell 1 _ rfl
  have y2 := hcell 2 _ rfl
  have y3 := hcell 3 _ rfl
  have hsz : w.heap.size < (w.alloc (.cells #[.int .i64 d, .int .i64 a, .int .i64 b, .int .i64 c] 35)).heap.size := by simp
  have HSZ := hide hsz
  clear hcell hsz
  have CI : Hid (∀ W p, Nob W p → Calls Try.prog 26 #[.pointer p] W fun e w' => e = .returned (.int .i64 (-1)) ∧ w' = W) := fun W p h => nobIn_any W p h
  have CA : Hid (∀ W p x y, Nob W p → Calls Try.prog 20 #[.pointer p, .int .i64 x, .int .i64 y] W fun e w' => e = .returned (.int .i64 (-1)) ∧ w' = W) := fun W p x y h => nobAnd_any W p x y h
  have CO : Hid (∀ W p, Nob W p → Calls Try.prog 22 #[.pointer p, .int .i64 a, .int .i64 b] W fun e w' => e = .returned (.int .i64 (-1)) ∧ w' = W) := fun W p h => nobOr_any W p a b h ha hb
  have CX : Hid (∀ W p, Nob W p → Calls Try.prog 23 #[.pointer p, .int .i64 a, .int .i64 b] W fun e w' => e = .returned (.int .i64 (-1)) ∧ w' = W) := fun W p h => nobXor_any W p a b h ha hb
  have CT : Hid (∀ W p, Nob W p → Calls Try.prog 24 #[.pointer p, .int .i64 c, .int .i64 a, .int .i64 b] W fun e w' => e = .returned (.int .i64 (-1)) ∧ w' = W) := fun W p h => nobIte_any W p c a b h hc
  have CL : Hid (∀ W p q, Nob W p → W.cell? ⟨q, 0, none⟩ = some (.int .i64 a) → Calls Try.prog 25 #[.pointer p, .slice (some ⟨q, 0, none⟩) 1 1] W fun e w' => e = .returned (.int .i64 (-1)) ∧ w' = W) := fun W p q h hq => nobAll_any W p q a h hq
  have CS : Hid (∀ W p l, Nob W p → Calls Try.prog 12 #[.pointer p, .int .i64 l] W fun e w' => e = .returned (.bool false) ∧ w' = W) := fun W p l h => nobIs_any W p l h
  have CN : Hid (∀ W p, Nob W p → Calls Try.prog 10 #[.pointer p] W fun e w' => e = .returned (.slice none 0 0) ∧ w' = W) := fun W p h => nobNodes_any W p h
  have CE : Hid (∀ W p, Nob W p → Calls Try.prog 11 #[.pointer p] W fun e w' => e = .returned (.int .i64 0) ∧ w' = W) := fun W p h => nobLen_any W p h
  clear ha hb hc
  go_enter Try.func7, Try.ntmps7
  go_upto_region 2 with fail
  generalize w.alloc (.cells #[.int .i64 d, .int .i64 a, .int .i64 b, .int .i64 c] 35) = W0 at *
  generalize hS : w.heap.size = S at y1 y2 y3 HSZ ⊢
  have HS := hide hS
  clear hS
  go_loopw [3] (fun i W => ∃ k : Nat, k ≤ 2 ∧ i = .int .i64 (k : Int) ∧ Hid (Below w.heap.size w W) ∧ Hid (Below W0.heap.size W0 W)) (fun i _ => (2 - intOf i).toNat)
  case atStart => exact ⟨0, Nat.zero_le _, rfl, HB0, Below.refl _ _⟩
  case round =>
    obtain ⟨k, hk, rfl, HB, HW⟩ := hrel
    have z1 := (HW.out.cell (p := ⟨S, 1, none⟩) HSZ.out).trans y1
    have z2 := (HW.out.cell (p := ⟨S, 2, none⟩) HSZ.out).trans y2
    have z3 := (HW.out.cell (p := ⟨S, 3, none⟩) HSZ.out).trans y3
    have hSW : S < wr.heap.size := by have := HW.out.size; have := HSZ.out; omega
    have n1 : S ≠ wr.heap.size := by omega
    have n2 : wr.heap.size ≠ S := by omega
    have n3 : S ≠ wr.heap.size + 1 := by omega
    have n4 : wr.heap.size + 1 ≠ S := by omega
    by_cases hk0 : k = 0
    · subst hk0
      have HN : Hid (Nob wr none) := .inl rfl
      have HN2 : Hid (Nob (wr.alloc (.cells #[.int .i64 a] 3)) none) := .inl rfl
      have hq : (wr.alloc (.cells #[.int .i64 a] 3)).cell? ⟨wr.heap.size, 0, none⟩ = some (.int .i64 a) := by
        have h0 := (MapKept.heap_alloc wr (.cells #[.int .i64 a] 3)).1
        simp only [World.cell?, h0]; rfl
      have HQ := hide hq
      have HBL := hide (below_alloc wr (.cells #[.int .i64 a] 3))
      clear hq
      go_wp2_with (first
        | (go_at_call 26; refine (unhide CI _ _ HN.out).mono ?_; rintro e w0 ⟨rfl, hw0⟩; subst w0)
        | (go_at_call 20; refine (unhide CA _ _ _ _ HN.out).mono ?_; rintro e w0 ⟨rfl, hw0⟩; subst w0)
        | (go_at_call 22; refine (unhide CO _ _ HN.out).mono ?_; rintro e w0 ⟨rfl, hw0⟩; subst w0)
        | (go_at_call 23; refine (unhide CX _ _ HN.out).mono ?_; rintro e w0 ⟨rfl, hw0⟩; subst w0)
        | (go_at_call 24; refine (unhide CT _ _ HN.out).mono ?_; rintro e w0 ⟨rfl, hw0⟩; subst w0)
        | (go_at_call 25; refine (unhide CL _ _ _ HN2.out HQ.out).mono ?_; rintro e w0 ⟨rfl, hw0⟩; subst w0)
        | (go_at_call 12; refine (unhide CS _ _ _ HN2.out).mono ?_; rintro e w0 ⟨rfl, hw0⟩; subst w0)
        | (go_at_call 10; refine (unhide CN _ _ HN2.out).mono ?_; rintro e w0 ⟨rfl, hw0⟩; subst w0)
        | (go_at_call 11; refine (unhide CE _ _ HN2.out).mono ?_; rintro e w0 ⟨rfl, hw0⟩; subst w0))
      go_roundw
      case rel => exact ⟨1, by omega, by go_num, HB.out.trans (HBL.out.mono HB.out.size), HW.out.trans (HBL.out.mono HW.out.size)⟩
      case measure => simp [intOf]
    · by_cases hk1 : k = 1
      · subst hk1
        have HN : Hid (Nob (wr.alloc (.cells #[.pointer none, .slice none 0 0, .map none] 56)) (some ⟨wr.heap.size, 0, none⟩)) := .inr ⟨_, rfl, by
          have h0 := (MapKept.heap_alloc wr (.cells #[.pointer none, .slice none 0 0, .map none] 56)).1
          simp only [World.cell?, h0]; rfl, by simp⟩
        have HBL0 := hide (below_alloc wr (.cells #[.pointer none, .slice none 0 0, .map none] 56))
        have HN2 : Hid (Nob ((wr.alloc (.cells #[.pointer none, .slice none 0 0, .map none] 56)).alloc (.cells #[.int .i64 a] 3)) (some ⟨wr.heap.size, 0, none⟩)) := HN.out.below (below_alloc _ _)
        have hq : ((wr.alloc (.cells #[.pointer none, .slice none 0 0, .map none] 56)).alloc (.cells #[.int .i64 a] 3)).cell? ⟨wr.heap.size + 1, 0, none⟩ = some (.int .i64 a) := by
          have h0 := (MapKept.heap_alloc (wr.alloc (.cells #[.pointer none, .slice none 0 0, .map none] 56)) (.cells #[.int .i64 a] 3)).1
          rw [show (wr.alloc (.cells #[.pointer none, .slice none 0 0, .map none] 56)).heap.size = wr.heap.size + 1 by simp] at h0
          simp only [World.cell?, h0]; rfl
        have HQ := hide hq
        have HBL := hide (HBL0.out.alloc HBL0.out.size (.cells #[.int .i64 a] 3))
        clear hq
        go_wp2_with (first
          | (go_at_call 26; refine (unhide CI _ _ HN.out).mono ?_; rintro e w0 ⟨rfl, hw0⟩; subst w0)
          | (go_at_call 20; refine (unhide CA _ _ _ _ HN.out).mono ?_; rintro e w0 ⟨rfl, hw0⟩; subst w0)
          | (go_at_call 22; refine (unhide CO _ _ HN.out).mono ?_; rintro e w0 ⟨rfl, hw0⟩; subst w0)
          | (go_at_call 23; refine (unhide CX _ _ HN.out).mono ?_; rintro e w0 ⟨rfl, hw0⟩; subst w0)
          | (go_at_call 24; refine (unhide CT _ _ HN.out).mono ?_; rintro e w0 ⟨rfl, hw0⟩; subst w0)
          | (go_at_call 25; refine (unhide CL _ _ _ HN2.out HQ.out).mono ?_; rintro e w0 ⟨rfl, hw0⟩; subst w0)
          | (go_at_call 12; refine (unhide CS _ _ _ HN2.out).mono ?_; rintro e w0 ⟨rfl, hw0⟩; subst w0)
          | (go_at_call 10; refine (unhide CN _ _ HN2.out).mono ?_; rintro e w0 ⟨rfl, hw0⟩; subst w0)
          | (go_at_call 11; refine (unhide CE _ _ HN2.out).mono ?_; rintro e w0 ⟨rfl, hw0⟩; subst w0))
        go_roundw
        case rel => exact ⟨2, by omega, by go_num, HB.out.trans (HBL.out.mono HB.out.size), HW.out.trans (HBL.out.mono HW.out.size)⟩
        case measure => simp [intOf]
      · have hk2 : ¬ (k : Int) < 2 := by omega
        have AW : Hid (∀ W, Calls Try.prog 13 #[] W fun e w' => e = .returned (.bool true) ∧ Below W.heap.size W w') := fun W => awake_any W
        go_wp2_with (first | (go_at_call 13; refine (unhide AW _).mono ?_; rintro e w3 ⟨rfl, hb3⟩))
        go_ret
        exact ⟨rfl, HB.out.trans (hb3.mono HB.out.size)⟩
end Go.Proofs.Ytjfjigpmaeaopaa
