/- Contracts of paces: which may be; Until; the pace that has come to a place; Start; Tick. -/
import Derived.Test.YtdipmcjgdpjlaaaWalkB
set_option linter.unusedVariables false
set_option linter.unusedSimpArgs false
namespace Go.Proofs.Ytdipmcjgdpjlaaa
open Go.RowKit

theorem below_drewN {B : Nat} {a w : World} (h : Below B a w) (n : Nat) : Below B a (w.drewN n) := ⟨h.os, h.tape, h.output, h.size, h.block⟩

/-- May a pace be? -/
def mayB (U A L : Int) : Bool := inB 1048576 U && inB 1073741824 A && decide (1 ≤ L) && decide (L ≤ U * (lub A.toNat : Int))
def agg3 (U A L : Int) : Value := .agg #[.int .i64 U, .int .i64 A, .int .i64 L]

theorem mayB_cases (U A L : Int) :
    (mayB U A L = false ∧ inB 1048576 U = false) ∨ (mayB U A L = false ∧ inB 1048576 U = true ∧ inB 1073741824 A = false) ∨
    (mayB U A L = false ∧ inB 1048576 U = true ∧ inB 1073741824 A = true ∧ L < 1) ∨
    (inB 1048576 U = true ∧ inB 1073741824 A = true ∧ 1 ≤ L) := by
  unfold mayB
  cases h1 : inB 1048576 U <;> cases h2 : inB 1073741824 A <;> simp
  omega
theorem mayB_last {U A L : Int} (h1 : inB 1048576 U = true) (h2 : inB 1073741824 A = true) (h3 : 1 ≤ L) : mayB U A L = decide (L ≤ U * (lub A.toNat : Int)) := by
  unfold mayB; simp [h1, h2, h3]
theorem prod_bd {U l : Int} (h0 : 1 ≤ U) (h1 : U ≤ 1048576) (h2 : 1 ≤ l) (h3 : l ≤ 1073741824) : 1 ≤ U * l ∧ U * l ≤ 1125899906842624 := by
  constructor
  · have := Int.mul_le_mul h0 h2 (by omega) (by omega); omega
  · exact Int.mul_le_mul h1 h3 (by omega) (by omega)

set_option maxHeartbeats 4000000 in
set_option maxRecDepth 100000 in
theorem check_any (U A L : Int) (w : World) :
    Calls Try.prog 14 #[.agg #[.int .i64 U, .int .i64 A, .int .i64 L]] w fun e w' => e = .returned (.int .i64 (if mayB U A L then 0 else 1)) ∧ Below w.heap.size w w' := by
  have hB := hide ((Below.refl w.heap.size w).alloc (Nat.le_refl _) (.cells #[.int .i64 U, .int .i64 A, .int .i64 L] 30))
  have CU : Hid (∀ W, Calls Try.prog 22 #[.int .i64 U] W fun e w' => e = .returned (.bool (inB 1048576 U)) ∧ w' = W) := fun W => isUnit_any U W
  have CP : Hid (∀ W, Calls Try.prog 18 #[.int .i64 A] W fun e w' => e = .returned (.bool (inB 1073741824 A)) ∧ w' = W) := fun W => isPlace_any A W
  rcases mayB_cases U A L with ⟨h0, h1⟩ | ⟨h0, h1, h2⟩ | ⟨h0, h1, h2, h3⟩ | ⟨h1, h2, h3⟩
  · rw [h1] at CU
    rw [h0]
    clear h0 h1 CP
    go_enter Try.func14, Try.ntmps14
    go_wp2_with (go_at_call 22; refine (unhide CU _).mono ?_; rintro e w0 ⟨rfl, hw0⟩; subst w0)
    go_ret
    exact ⟨rfl, hB⟩
  · rw [h1] at CU
    rw [h2] at CP
    rw [h0]
    clear h0 h1 h2
    go_enter Try.func14, Try.ntmps14
    go_wp2_with (first
      | (go_at_call 22; refine (unhide CU _).mono ?_; rintro e w0 ⟨rfl, hw0⟩; subst w0)
      | (go_at_call 18; refine (unhide CP _).mono ?_; rintro e w0 ⟨rfl, hw0⟩; subst w0))
    go_ret
    exact ⟨rfl, hB⟩
  · rw [h1] at CU
    rw [h2] at CP
    rw [h0]
    clear h0 h1 h2
    have hd : decide (L < 1) = true := by simpa using h3
    go_enter Try.func14, Try.ntmps14
    go_wp2_with (first
      | (go_at_call 22; refine (unhide CU _).mono ?_; rintro e w0 ⟨rfl, hw0⟩; subst w0)
      | (go_at_call 18; refine (unhide CP _).mono ?_; rintro e w0 ⟨rfl, hw0⟩; subst w0))
    go_quiet (fail)
    go_wp2
    go_ret
    exact ⟨rfl, below_drewN hB.out _⟩
  · rw [mayB_last h1 h2 h3]
    rw [h1] at CU
    rw [h2] at CP
    obtain ⟨u1, u2⟩ := inB_true h1
    obtain ⟨a1, a2⟩ := inB_true h2
    obtain ⟨n, rfl⟩ : ∃ n : Nat, A = (n : Int) := ⟨A.toNat, by omega⟩
    rw [Int.toNat_natCast]
    have hl := lub_bd (n := n) (by omega) (by omega)
    have CN : Hid (∀ W, Calls Try.prog 19 #[.int .i64 (n : Int)] W fun e w' => e = .returned (.int .i64 (lub n : Int)) ∧ w' = W) := fun W => numberAt_any n W (by omega) (by omega)
    generalize lub n = l at *
    obtain ⟨l1, l2⟩ := hl
    obtain ⟨r1, r2⟩ := prod_bd u1 u2 (l := (l : Int)) (by omega) (by omega)
    obtain ⟨R, hR⟩ : ∃ R : Nat, U * (l : Int) = (R : Int) := ⟨(U * (l : Int)).toNat, by omega⟩
    rw [hR] at r1 r2 ⊢
    clear h1 h2
    have hd : decide (L < 1) = false := by simpa using h3
    by_cases hL : L ≤ (R : Int)
    · rw [decide_eq_true hL]
      have hLR : decide ((R : Int) < L) = false := by simpa using hL
      go_enter Try.func14, Try.ntmps14
      go_wp2_with (first
        | (go_at_call 22; refine (unhide CU _).mono ?_; rintro e w0 ⟨rfl, hw0⟩; subst w0)
        | (go_at_call 18; refine (unhide CP _).mono ?_; rintro e w0 ⟨rfl, hw0⟩; subst w0))
      go_quiet ((go_at_call 19; exact Calls.quiet_of_same (unhide CN _)))
      go_wp2
      go_ret
      exact ⟨rfl, below_drewN hB.out _⟩
    · rw [decide_eq_false hL]
      have hLR : decide ((R : Int) < L) = true := by simpa using hL
      go_enter Try.func14, Try.ntmps14
      go_wp2_with (first
        | (go_at_call 22; refine (unhide CU _).mono ?_; rintro e w0 ⟨rfl, hw0⟩; subst w0)
        | (go_at_call 18; refine (unhide CP _).mono ?_; rintro e w0 ⟨rfl, hw0⟩; subst w0))
      go_quiet ((go_at_call 19; exact Calls.quiet_of_same (unhide CN _)))
      go_wp2
      go_ret
      exact ⟨rfl, below_drewN hB.out _⟩

theorem bcell {W w1 : World} (hb : Below W.heap.size W w1) : (∀ b o, b < W.heap.size → w1.cell? ⟨b, o, none⟩ = W.cell? ⟨b, o, none⟩) ∧ (∀ b o, b < W.heap.size → w1.frozen? ⟨b, o, none⟩ = W.frozen? ⟨b, o, none⟩) :=
  ⟨fun b o h => hb.cell (p := ⟨b, o, none⟩) h, fun b o h => hb.frozen (p := ⟨b, o, none⟩) h⟩

theorem check_yes (U A L : Int) (w : World) (h : mayB U A L = true) :
    Calls Try.prog 14 #[.agg #[.int .i64 U, .int .i64 A, .int .i64 L]] w fun e w' => e = .returned (.int .i64 0) ∧ Below w.heap.size w w' := by
  have := check_any U A L w
  rw [h] at this; exact this
theorem check_no (U A L : Int) (w : World) (h : mayB U A L = false) :
    Calls Try.prog 14 #[.agg #[.int .i64 U, .int .i64 A, .int .i64 L]] w fun e w' => e = .returned (.int .i64 1) ∧ Below w.heap.size w w' := by
  have := check_any U A L w
  rw [h] at this; exact this

set_option maxHeartbeats 400000 in
theorem until_yes (U A L : Int) (w : World) (h : mayB U A L = true) :
    Calls Try.prog 15 #[.agg #[.int .i64 U, .int .i64 A, .int .i64 L]] w fun e w' => e = .returned (.int .i64 L) ∧ Below w.heap.size w w' := by
  have hB := hide ((Below.refl w.heap.size w).alloc (Nat.le_refl _) (.cells #[.int .i64 U, .int .i64 A, .int .i64 L] 30))
  have C := hide (check_yes U A L (w.alloc (.cells #[.int .i64 U, .int .i64 A, .int .i64 L] 30)) h)
  clear h
  go_enter Try.func15, Try.ntmps15
  go_wp2_with (go_at_call 14; refine (unhide C).mono ?_; rintro e w1 ⟨rfl, hb1⟩; obtain ⟨hc, hf⟩ := bcell hb1; replace hb1 := hide hb1)
  go_ret
  exact ⟨rfl, hB.out.trans (hb1.out.mono (by simp))⟩
set_option maxHeartbeats 400000 in
theorem until_no (U A L : Int) (w : World) (h : mayB U A L = false) :
    Calls Try.prog 15 #[.agg #[.int .i64 U, .int .i64 A, .int .i64 L]] w fun e w' => e = .returned (.int .i64 0) ∧ Below w.heap.size w w' := by
  have hB := hide ((Below.refl w.heap.size w).alloc (Nat.le_refl _) (.cells #[.int .i64 U, .int .i64 A, .int .i64 L] 30))
  have C := hide (check_no U A L (w.alloc (.cells #[.int .i64 U, .int .i64 A, .int .i64 L] 30)) h)
  clear h
  go_enter Try.func15, Try.ntmps15
  go_wp2_with (go_at_call 14; refine (unhide C).mono ?_; rintro e w1 ⟨rfl, hb1⟩; obtain ⟨hc, hf⟩ := bcell hb1; replace hb1 := hide hb1)
  go_ret
  exact ⟨rfl, hB.out.trans (hb1.out.mono (by simp))⟩

set_option maxHeartbeats 400000 in
theorem paceAt_any (U n : Nat) (w : World) (u1 : 1 ≤ U) (u2 : U ≤ 1048576) (h : 1 ≤ n) (h1 : n ≤ 1073741824) :
    Calls Try.prog 21 #[.int .i64 (U : Int), .int .i64 (n : Int)] w fun e w' => e = .returned (.agg #[.int .i64 (U : Int), .int .i64 (n : Int), .int .i64 ((U : Int) * (lub n : Int))]) ∧ Below w.heap.size w w' := by
  have CN : Hid (∀ W, Calls Try.prog 19 #[.int .i64 (n : Int)] W fun e w' => e = .returned (.int .i64 (lub n : Int)) ∧ w' = W) := fun W => numberAt_any n W (by omega) (by omega)
  obtain ⟨l1, l2⟩ := lub_bd h h1
  generalize lub n = l at *
  obtain ⟨r1, r2⟩ := prod_bd (U := (U : Int)) (by omega) (by omega) (l := (l : Int)) (by omega) (by omega)
  obtain ⟨R, hR⟩ : ∃ R : Nat, (U : Int) * (l : Int) = (R : Int) := ⟨U * l, by push_cast; rfl⟩
  rw [hR] at r1 r2 ⊢
  go_enter Try.func21, Try.ntmps21
  go_wp2_with (go_at_call 19; refine (unhide CN _).mono ?_; rintro e w0 ⟨rfl, hw0⟩; subst w0)
  refine bodyPost_ret (v := .agg #[.int .i64 (U : Int), .int .i64 (n : Int), .int .i64 (R : Int)]) (by simp [results, Try.results21, go_sem]) rfl ⟨rfl, ?_⟩
  exact (Below.refl _ _).alloc (Nat.le_refl _) _

end Go.Proofs.Ytdipmcjgdpjlaaa
