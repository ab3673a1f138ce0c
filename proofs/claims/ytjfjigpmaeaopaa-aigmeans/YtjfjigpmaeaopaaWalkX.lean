/- Is a node found again: awake. -/
import Derived.Test.YtjfjigpmaeaopaaWalkW
set_option linter.unusedVariables false
set_option linter.unusedSimpArgs false
namespace Go.Proofs.Ytjfjigpmaeaopaa
open Go.RowKit Go.Maps

theorem below_kp {N : Nat} {w W1 W2 : World} {S : Nat → Prop} (h : Below N w W1) (k : Kp S W1 W2) (hS : ∀ b, S b → N ≤ b) (hN : N ≤ W1.heap.size) : Below N w W2 :=
  ⟨k.os.trans h.os, k.tape.trans h.tape, k.output.trans h.output, Nat.le_trans h.size k.size, fun b hb => (k.block b (by omega) (fun e => by have := hS b e; omega)).trans (h.block b hb)⟩

def gA : List Gt := [(-1, -1), (-1, -1), (2, 4)]
theorem in_1 : inF [] = ([(-1, -1)], 2) := by decide
theorem in_2 : inF [(-1, -1)] = ([(-1, -1), (-1, -1)], 4) := by decide
theorem an_1 : andF [(-1, -1), (-1, -1)] 2 4 = (gA, 6) := by decide +kernel
theorem an_2 : andF gA 6 2 = (gA, 6) := by decide +kernel
theorem an_3 : andF gA 6 3 = (gA, 0) := by decide +kernel
theorem an_4 : andF gA 4 2 = (gA, 6) := by decide +kernel

set_option maxHeartbeats 2000000 in
theorem awake_any (w : World) : Calls Try.prog 13 #[] w fun e w' => e = .returned (.bool true) ∧ Below w.heap.size w w' := by
  have IN1 : Hid (∀ W B M v, Gr W B M v [] → Calls Try.prog 26 #[.pointer (some ⟨B, 0, none⟩)] W fun e w' => e = .returned (.int .i64 2) ∧ GrP W B M v [(-1, -1)] w') := fun W B M v h => by
    have := in_any W B M v [] h (by simp); rwa [in_1] at this
  have IN2 : Hid (∀ W B M v, Gr W B M v [(-1, -1)] → Calls Try.prog 26 #[.pointer (some ⟨B, 0, none⟩)] W fun e w' => e = .returned (.int .i64 4) ∧ GrP W B M v [(-1, -1), (-1, -1)] w') := fun W B M v h => by
    have := in_any W B M v _ h (by simp); rwa [in_2] at this
  have A1 : Hid (∀ W B M v, Gr W B M v [(-1, -1), (-1, -1)] → Calls Try.prog 20 #[.pointer (some ⟨B, 0, none⟩), .int .i64 2, .int .i64 4] W fun e w' => e = .returned (.int .i64 6) ∧ GrP W B M v gA w') := fun W B M v h => by
    have := and_any W B M v _ 2 4 h (by simp); rwa [an_1] at this
  have A2 : Hid (∀ W B M v x y r, (x = 6 ∧ y = 2 ∧ r = 6) ∨ (x = 6 ∧ y = 3 ∧ r = 0) ∨ (x = 4 ∧ y = 2 ∧ r = 6) → Gr W B M v gA → Calls Try.prog 20 #[.pointer (some ⟨B, 0, none⟩), .int .i64 x, .int .i64 y] W fun e w' => e = .returned (.int .i64 r) ∧ GrP W B M v gA w') := fun W B M v x y r hx h => by
    rcases hx with ⟨rfl, rfl, rfl⟩ | ⟨rfl, rfl, rfl⟩ | ⟨rfl, rfl, rfl⟩
    · have := and_any W B M v _ 6 2 h (by simp [gA]); rwa [an_2] at this
    · have := and_any W B M v _ 6 3 h (by simp [gA]); rwa [an_3] at this
    · have := and_any W B M v _ 4 2 h (by simp [gA]); rwa [an_4] at this
  generalize gA = g3 at *
  go_enter Try.func13, Try.ntmps13
  go_upto_region 2 with (first | (go_at_call 27; refine (new_any _).mono ?_; rintro e w1 ⟨B, M, rfl, h1, hb1, lB, lM⟩))
  go_upto_region 3 with (first
    | (go_at_call 26; refine (unhide IN2 _ _ _ _ h2).mono ?_; rintro e w3 ⟨rfl, v3, h3, k3, n3⟩)
    | (go_at_call 26; refine (unhide IN1 _ _ _ _ h1).mono ?_; rintro e w2 ⟨rfl, v2, h2, k2, n2⟩))
  clear IN1 IN2
  go_upto_region 4 with (first
    | (go_at_call 20; refine (unhide A1 _ _ _ _ h3).mono ?_; rintro e w4 ⟨rfl, v4, h4, k4, n4⟩))
  clear A1
  go_wp2_with (first
    | (go_at_call 20; refine (unhide A2 _ _ _ _ _ _ _ (by first | exact .inl ⟨rfl, rfl, rfl⟩ | exact .inr (.inl ⟨rfl, rfl, rfl⟩) | exact .inr (.inr ⟨rfl, rfl, rfl⟩)) h6).mono ?_; rintro e w7 ⟨rfl, v7, h7, k7, n7⟩)
    | (go_at_call 20; refine (unhide A2 _ _ _ _ _ _ _ (by first | exact .inl ⟨rfl, rfl, rfl⟩ | exact .inr (.inl ⟨rfl, rfl, rfl⟩) | exact .inr (.inr ⟨rfl, rfl, rfl⟩)) h5).mono ?_; rintro e w6 ⟨rfl, v6, h6, k6, n6⟩)
    | (go_at_call 20; refine (unhide A2 _ _ _ _ _ _ _ (by first | exact .inl ⟨rfl, rfl, rfl⟩ | exact .inr (.inl ⟨rfl, rfl, rfl⟩) | exact .inr (.inr ⟨rfl, rfl, rfl⟩)) h4).mono ?_; rintro e w5 ⟨rfl, v5, h5, k5, n5⟩))
  go_ret
  have P1 : GrP w1 B M (.slice none 0 0) g3 w7 := GrP.seq k2 n2 (GrP.seq k3 n3 (GrP.seq k4 n4 (GrP.seq k5 n5 (GrP.seq k6 n6 ⟨v7, h7, k7, n7⟩))))
  obtain ⟨v, _, hk, _⟩ := P1
  refine ⟨rfl, below_kp hb1 hk ?_ hb1.size⟩
  rintro b (h | h | h)
  · omega
  · omega
  · cases h
end Go.Proofs.Ytjfjigpmaeaopaa
