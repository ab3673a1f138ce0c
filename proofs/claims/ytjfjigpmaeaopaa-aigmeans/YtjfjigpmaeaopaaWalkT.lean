/- The document's And. -/
import Derived.Test.YtjfjigpmaeaopaaWalkS
set_option linter.unusedVariables false
set_option linter.unusedSimpArgs false
namespace Go.Proofs.Ytjfjigpmaeaopaa
open Go.RowKit Go.Maps

theorem notR_nn {l : Int} (h : 0 ≤ l) : notR l = notI l := by unfold notR; rw [if_neg (by omega)]

/-- The contract of the document's And on a list, of two whose sum is less. -/
def RefAnd (w : World) (q off cap : Nat) (g : List Gt) (n : Int) : Prop :=
  ∀ W c d, Below w.heap.size w W → isB g c = true → isB g d = true → c + d < n → Calls Try.prog 21 #[.slice (some ⟨q, off, none⟩) g.length cap, .int .i64 c, .int .i64 d] W (RefP W q (andF g c d))

set_option maxHeartbeats 4000000 in
set_option maxRecDepth 100000 in
theorem refAnd_e1 (w : World) (q off cap : Nat) (g : List Gt) (b : Int) (Z : List Gt × Int) (hl : g.length ≤ 999) (nb : 0 ≤ b)
    (IS : Hid (∀ W l, Calls Try.prog 42 #[.slice (some ⟨q, off, none⟩) g.length cap, .int .i64 l] W fun e w' => e = .returned (.bool (isB g l)) ∧ w' = W)) (h0 : isB g 0 = true) (hb : isB g b = true)
    (HE : Hid (RefP w q Z (.returned (.tuple #[.slice (some ⟨q, off, none⟩) g.length cap, .int .i64 0])) w)) :
    Calls Try.prog 21 #[.slice (some ⟨q, off, none⟩) g.length cap, .int .i64 0, .int .i64 b] w (RefP w q Z) := by
  have hgt : ¬ b < 0 := by omega
  go_enter Try.func21, Try.ntmps21
  go_wp2_with (first | (go_at_call 42; refine (unhide IS _ _).mono ?_; rintro e w0 ⟨rfl, hw0⟩; subst w0))
  all_goals exact bodyPost_ret (v := .tuple #[.slice (some ⟨q, off, none⟩) g.length cap, .int .i64 0]) (by simp [results, Try.results21, go_sem]) rfl HE.out

set_option maxHeartbeats 4000000 in
set_option maxRecDepth 100000 in
theorem refAnd_e2 (w : World) (q off cap : Nat) (g : List Gt) (a b : Int) (Z : List Gt × Int) (hl : g.length ≤ 999) (hgt : ¬ b < a)
    (IS : Hid (∀ W l, Calls Try.prog 42 #[.slice (some ⟨q, off, none⟩) g.length cap, .int .i64 l] W fun e w' => e = .returned (.bool (isB g l)) ∧ w' = W)) (h0 : isB g a = true) (hb : isB g b = true)
    (NA : Hid (∀ W, Calls Try.prog 43 #[.int .i64 a] W fun e w' => e = .returned (.int .i64 b) ∧ w' = W)) (e1 : (a == 0) = false)
    (HE : Hid (RefP w q Z (.returned (.tuple #[.slice (some ⟨q, off, none⟩) g.length cap, .int .i64 0])) w)) :
    Calls Try.prog 21 #[.slice (some ⟨q, off, none⟩) g.length cap, .int .i64 a, .int .i64 b] w (RefP w q Z) := by
  have e1' : decide (a = 0) = false := e1
  go_enter Try.func21, Try.ntmps21
  go_wp2_with (first | (go_at_call 42; refine (unhide IS _ _).mono ?_; rintro e w0 ⟨rfl, hw0⟩; subst w0) | (go_at_call 43; refine (unhide NA _).mono ?_; rintro e w0 ⟨rfl, hw0⟩; subst w0))
  all_goals exact bodyPost_ret (v := .tuple #[.slice (some ⟨q, off, none⟩) g.length cap, .int .i64 0]) (by simp [results, Try.results21, go_sem]) rfl HE.out

set_option maxHeartbeats 4000000 in
set_option maxRecDepth 100000 in
theorem refAnd_e3 (w : World) (q off cap : Nat) (g : List Gt) (b m : Int) (Z : List Gt × Int) (hl : g.length ≤ 999) (hgt : ¬ b < 1)
    (IS : Hid (∀ W l, Calls Try.prog 42 #[.slice (some ⟨q, off, none⟩) g.length cap, .int .i64 l] W fun e w' => e = .returned (.bool (isB g l)) ∧ w' = W)) (h0 : isB g 1 = true) (hb : isB g b = true)
    (NA : Hid (∀ W, Calls Try.prog 43 #[.int .i64 1] W fun e w' => e = .returned (.int .i64 m) ∧ w' = W)) (e2 : (b == m) = false)
    (HE : Hid (RefP w q Z (.returned (.tuple #[.slice (some ⟨q, off, none⟩) g.length cap, .int .i64 b])) w)) :
    Calls Try.prog 21 #[.slice (some ⟨q, off, none⟩) g.length cap, .int .i64 1, .int .i64 b] w (RefP w q Z) := by
  have e2' : decide (b = m) = false := e2
  go_enter Try.func21, Try.ntmps21
  go_wp2_with (first | (go_at_call 42; refine (unhide IS _ _).mono ?_; rintro e w0 ⟨rfl, hw0⟩; subst w0) | (go_at_call 43; refine (unhide NA _).mono ?_; rintro e w0 ⟨rfl, hw0⟩; subst w0))
  all_goals exact bodyPost_ret (v := .tuple #[.slice (some ⟨q, off, none⟩) g.length cap, .int .i64 b]) (by simp [results, Try.results21, go_sem]) rfl HE.out

set_option maxHeartbeats 4000000 in
set_option maxRecDepth 100000 in
theorem refAnd_e4 (w : World) (q off cap : Nat) (g : List Gt) (a m : Int) (Z : List Gt × Int) (hl : g.length ≤ 999)
    (IS : Hid (∀ W l, Calls Try.prog 42 #[.slice (some ⟨q, off, none⟩) g.length cap, .int .i64 l] W fun e w' => e = .returned (.bool (isB g l)) ∧ w' = W)) (h0 : isB g a = true)
    (NA : Hid (∀ W, Calls Try.prog 43 #[.int .i64 a] W fun e w' => e = .returned (.int .i64 m) ∧ w' = W)) (e1 : (a == 0) = false) (e2 : (a == m) = false) (e3 : (a == 1) = false)
    (HE : Hid (RefP w q Z (.returned (.tuple #[.slice (some ⟨q, off, none⟩) g.length cap, .int .i64 a])) w)) :
    Calls Try.prog 21 #[.slice (some ⟨q, off, none⟩) g.length cap, .int .i64 a, .int .i64 a] w (RefP w q Z) := by
  have e1' : decide (a = 0) = false := e1
  have e2' : decide (a = m) = false := e2
  have e3' : decide (a = 1) = false := e3
  go_enter Try.func21, Try.ntmps21
  go_wp2_with (first | (go_at_call 42; refine (unhide IS _ _).mono ?_; rintro e w0 ⟨rfl, hw0⟩; subst w0) | (go_at_call 43; refine (unhide NA _).mono ?_; rintro e w0 ⟨rfl, hw0⟩; subst w0))
  all_goals exact bodyPost_ret (v := .tuple #[.slice (some ⟨q, off, none⟩) g.length cap, .int .i64 a]) (by simp [results, Try.results21, go_sem]) rfl HE.out

end Go.Proofs.Ytjfjigpmaeaopaa
