/- What is asked of words, in the law's world: literals that have a value, by the inputs. -/
import Derived.Test.YtdjfciigfledhaaVy
set_option linter.unusedVariables false
set_option linter.unusedSimpArgs false
namespace Go.Proofs.Ytdjfciigfledhaa
open Go.RowKit Go.Maps

/-- A literal that has a value, by the inputs. -/
structure Ln (g : List Gt) (l : Int) (L : List Bool) (b : Bool) : Prop where
  lit : isB g l = true
  val : valF (allV L g) l = b
theorem Ln.grow {g g' : List Gt} {l : Int} {L : List Bool} {b : Bool} {j : Nat} (h : Ln g l L b) (e : Grow g g' j) : Ln g' l L b := ⟨e.lit h.lit, (val_grow e h.lit).trans h.val⟩
/-- What an act tells: a literal. -/
def AQ (w0 w : World) (B M : Nat) (g : List Gt) (k j n pa ca pb cb : Nat) (la lb : List Int) (ai : Option Addr) (c : Nat) (L : List Bool) (x y Q a b f : Nat) (r : Bool) (e : Ending) (w' : World) : Prop :=
  ∃ l v' g', e = .returned (.int .i64 l) ∧ LB w0 w' B M v' g' (k + j) n pa ca pb cb la lb ai c L x y Q a b f ∧ Ln g' l L r ∧ (∀ {q2 c2 : Nat} {l2 : List Int} {N2 : Nat}, Wn w g q2 c2 n l2 L N2 → Wn w' g' q2 c2 n l2 L N2) ∧ ∀ {l2 : Int} {b2 : Bool}, Ln g l2 L b2 → Ln g' l2 L b2
section
variable {w0 w W : World} {B M k n pa ca pb cb c x y Q a b f : Nat} {v : Value} {g : List Gt} {la lb : List Int} {ai : Option Addr} {L : List Bool}
theorem AP.aq {j : Nat} {m : List Bool → Bool} {r : Bool} {e : Ending} {w' : World} (h : LB w0 w B M v g k n pa ca pb cb la lb ai c L x y Q a b f) (hm : AP w B M v g j m e w') (hr : m L = r) : AQ w0 w B M g k j n pa ca pb cb la lb ai c L x y Q a b f r e w' := by
  obtain ⟨l, v', g', rfl, s, t⟩ := hm
  exact ⟨l, v', g', rfl, h.st s, ⟨t.1, by rw [t.2 L, hr]⟩, fun u => u.st h.lw.gr s, fun u => u.grow s.grow⟩
/-- The inputs have become more. -/
theorem LB.ins {e : List Bool} {ai2 : Option Addr} {c2 : Nat} (h : LB w0 w B M v g k n pa ca pb cb la lb ai c L x y Q a b f) (hb : Bo w ai2 c2 (L ++ e)) (hl : (L ++ e).length ≤ 100) : LB w0 w B M v g k n pa ca pb cb la lb ai2 c2 (L ++ e) x y Q a b f :=
  ⟨⟨h.lw.gr, h.lw.len, h.lw.a, h.lw.b, h.lw.wa, h.lw.wb, hb, hl, fun t => by rw [List.append_assoc]; exact h.lw.na _, fun t => by rw [List.append_assoc]; exact h.lw.nb _⟩, h.box, h.low, h.bel⟩
variable {q1 c1 q2 c2 N1 N2 : Nat} {l1 l2 : List Int}
theorem eqW (h : LB w0 w B M v g k n pa ca pb cb la lb ai c L x y Q a b f) (hk : k ≤ 100000) (h1 : 1 ≤ n) (h16 : n ≤ 16) (u : Wn w g q1 c1 n l1 L N1) (t : Wn w g q2 c2 n l2 L N2) :
    Calls Try.prog 32 #[.pointer (some ⟨B, 0, none⟩), .slice (some ⟨q1, 0, none⟩) n c1, .slice (some ⟨q2, 0, none⟩) n c2] w (AQ w0 w B M g k 80 n pa ca pb cb la lb ai c L x y Q a b f (decide (N1 = N2))) :=
  (eq_yes w B M v g (some ⟨q1, 0, none⟩) (some ⟨q2, 0, none⟩) c1 c2 l1 l2 n (fun ins => bitsW ins g l1) (fun ins => bitsW ins g l2) h.lw.gr (by have := h.lw.len; omega) u.wo.len t.wo.len h1 h16 u.wo.cap t.wo.cap (u.wo.fr h.lw.gr) (t.wo.fr h.lw.gr) ⟨u.wd, fun _ => rfl⟩ ⟨t.wd, fun _ => rfl⟩).mono fun e w' hn => hn.aq h (by
    rw [← u.num, ← t.num]; rfl)
theorem lessW (h : LB w0 w B M v g k n pa ca pb cb la lb ai c L x y Q a b f) (hk : k ≤ 100000) (h1 : 1 ≤ n) (h16 : n ≤ 16) (u : Wn w g q1 c1 n l1 L N1) (t : Wn w g q2 c2 n l2 L N2) :
    Calls Try.prog 33 #[.pointer (some ⟨B, 0, none⟩), .slice (some ⟨q1, 0, none⟩) n c1, .slice (some ⟨q2, 0, none⟩) n c2] w (AQ w0 w B M g k 80 n pa ca pb cb la lb ai c L x y Q a b f (decide (N1 < N2))) :=
  (less_yes w B M v g (some ⟨q1, 0, none⟩) (some ⟨q2, 0, none⟩) c1 c2 l1 l2 n (fun ins => bitsW ins g l1) (fun ins => bitsW ins g l2) h.lw.gr (by have := h.lw.len; omega) u.wo.len t.wo.len h1 h16 u.wo.cap t.wo.cap (u.wo.fr h.lw.gr) (t.wo.fr h.lw.gr) ⟨u.wd, fun _ => rfl⟩ ⟨t.wd, fun _ => rfl⟩).mono fun e w' hn => hn.aq h (by
    rw [← u.num, ← t.num]; rfl)
theorem anyW (h : LB w0 w B M v g k n pa ca pb cb la lb ai c L x y Q a b f) (hk : k ≤ 100000) (h1 : 1 ≤ n) (h16 : n ≤ 16) (u : Wn w g q1 c1 n l1 L N1) :
    Calls Try.prog 34 #[.pointer (some ⟨B, 0, none⟩), .slice (some ⟨q1, 0, none⟩) n c1] w (AQ w0 w B M g k 16 n pa ca pb cb la lb ai c L x y Q a b f (decide (N1 ≠ 0))) :=
  (any_yes w B M v g (some ⟨q1, 0, none⟩) c1 l1 n (fun ins => bitsW ins g l1) h.lw.gr (by have := h.lw.len; omega) u.wo.len h1 h16 (u.wo.fr h.lw.gr) ⟨u.wd, fun _ => rfl⟩).mono fun e w' hn => hn.aq h (by
    rw [← u.num]; rfl)
theorem iteW (h : LB w0 w B M v g k n pa ca pb cb la lb ai c L x y Q a b f) (hk : k ≤ 100000) (h1 : 1 ≤ n) (h16 : n ≤ 16) {z : Int} {r : Bool} (hz : Ln g z L r) (u : Wn w g q1 c1 n l1 L N1) (t : Wn w g q2 c2 n l2 L N2) :
    Calls Try.prog 31 #[.pointer (some ⟨B, 0, none⟩), .int .i64 z, .slice (some ⟨q1, 0, none⟩) n c1, .slice (some ⟨q2, 0, none⟩) n c2] w (OP w0 w B M g k 48 n pa ca pb cb la lb ai c L x y Q a b f (if r then N1 else N2)) :=
  (ite_yes w B M v g z (fun ins => valF (allV ins g) z) (some ⟨q1, 0, none⟩) (some ⟨q2, 0, none⟩) c1 c2 l1 l2 n (fun ins => bitsW ins g l1) (fun ins => bitsW ins g l2) h.lw.gr (by have := h.lw.len; omega) u.wo.len t.wo.len h1 h16 u.wo.cap t.wo.cap (u.wo.fr h.lw.gr) (t.wo.fr h.lw.gr) ⟨u.wd, fun _ => rfl⟩ ⟨t.wd, fun _ => rfl⟩ ⟨hz.lit, fun _ => rfl⟩).mono fun e w' hn => (hn.np (N := fun ins => numB (if valF (allV ins g) z then bitsW ins g l1 else bitsW ins g l2)) fun ins => rfl).op h (by
    show numB (if valF (allV L g) z then bitsW L g l1 else bitsW L g l2) = _
    rw [hz.val, ← u.num, ← t.num]; cases r <;> rfl)
end
end Go.Proofs.Ytdjfciigfledhaa
