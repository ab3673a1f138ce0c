/- How many of some bits are true; contracts: negation, the sum of two bits, of three. -/
import Derived.Test.YtbilhiklfficoaaVb
set_option linter.unusedVariables false
set_option linter.unusedSimpArgs false
namespace Go.Proofs.Ytbilhiklfficoaa
open Go.RowKit Go.Maps

/-- How many of some bits are true. -/
def cntT : List Bool → Nat
  | [] => 0
  | x :: a => b2n x + cntT a
theorem cntT_append : ∀ a b : List Bool, cntT (a ++ b) = cntT a + cntT b
  | [], b => by simp [cntT]
  | x :: a, b => by show b2n x + cntT (a ++ b) = b2n x + cntT a + cntT b; rw [cntT_append a b]; omega
theorem cntT_snoc (a : List Bool) (x : Bool) : cntT (a ++ [x]) = cntT a + b2n x := by rw [cntT_append]; simp [cntT]
theorem cntT_le : ∀ a : List Bool, cntT a ≤ a.length
  | [] => Nat.le_refl _
  | x :: a => by have := cntT_le a; have := b2n_le x; show b2n x + cntT a ≤ a.length + 1; omega
def threeS (x y z : Bool) : Bool := (x != y) != z
def threeC (x y z : Bool) : Bool := (x && y) || ((x != y) && z)
theorem three_num (x y z : Bool) : b2n (threeS x y z) + 2 * b2n (threeC x y z) = b2n x + b2n y + b2n z := by
  cases x <;> cases y <;> cases z <;> rfl

/-- What an act tells: two literals. -/
def PP (w : World) (B M : Nat) (v : Value) (g : List Gt) (k : Nat) (m1 m2 : List Bool → Bool) (e : Ending) (w' : World) : Prop :=
  ∃ s c v' g', e = .returned (.tuple #[.int .i64 s, .int .i64 c]) ∧ St w w' B M v v' g g' k ∧ Lt g' s m1 ∧ Lt g' c m2

section
variable (w : World) (B M : Nat) (v : Value) (g : List Gt)
theorem neg_any (l : Int) (hl : inI64 l) : Calls Try.prog 37 #[.int .i64 l] w fun e w' => e = .returned (.int .i64 (negF l)) ∧ w' = w := by
  by_cases h : l = -1
  · subst h
    go_enter Try.func37, Try.ntmps37
    go_wp2
    go_ret
    exact ⟨rfl, rfl⟩
  · have hx := xor_one hl
    have h' : (l == -1) = false := by simpa using h
    have hn : negF l = notI l := by unfold negF; rw [if_neg h]
    rw [hn]
    clear hn
    generalize notI l = m at *
    go_enter Try.func37, Try.ntmps37
    go_wp2
    go_ret
    exact ⟨rfl, rfl⟩
theorem negM (l : Int) (X : List Bool → Bool) (hg : g.length ≤ 1000000) (hl : Lt g l X) : Calls Try.prog 37 #[.int .i64 l] w fun e w' => e = .returned (.int .i64 (notI l)) ∧ w' = w := by
  have h := neg_any w l (hl.i64 hg).1
  rwa [(neg_lit hl.1).1] at h

set_option maxHeartbeats 1000000 in
theorem two_any (a b : Int) (X Y : List Bool → Bool) (hA : Gr w B M v g) (hl : g.length ≤ 999980) (ha : Lt g a X) (hb : Lt g b Y) :
    Calls Try.prog 58 #[.pointer (some ⟨B, 0, none⟩), .int .i64 a, .int .i64 b] w (PP w B M v g 3 (fun ins => X ins != Y ins) (fun ins => X ins && Y ins)) := by
  have AN : Hid (∀ W v' g' y x Y X, Gr W B M v' g' → g'.length ≤ 999990 → Lt g' y Y → Lt g' x X → Calls Try.prog 61 #[.pointer (some ⟨B, 0, none⟩), .int .i64 y, .int .i64 x] W (AP W B M v' g' 1 (fun ins => Y ins && X ins))) := fun W v' g' y x Y X h h1 h2 h3 => andM h h1 h2 h3
  have ON : Hid (∀ W v' g' y x Y X, Gr W B M v' g' → g'.length ≤ 999990 → Lt g' y Y → Lt g' x X → Calls Try.prog 59 #[.pointer (some ⟨B, 0, none⟩), .int .i64 y, .int .i64 x] W (AP W B M v' g' 1 (fun ins => Y ins || X ins))) := fun W v' g' y x Y X h h1 h2 h3 => orM h h1 h2 h3
  have HA := hide hA
  have HX := hide ha
  have HY := hide hb
  clear hA ha hb
  go_enter Try.func58, Try.ntmps58
  go_wp2_with (first
    | (go_at_call 61; refine (unhide AN _ _ _ _ _ _ _ s2.gr (by have := s1.len; have := s2.len; omega) (b1.not.grow s2.grow) b2).mono ?_; rintro e w3 ⟨l3, v3, g3, rfl, s3, b3⟩)
    | (go_at_call 59; refine (unhide ON _ _ _ _ _ _ _ s1.gr (by have := s1.len; omega) (HX.out.grow s1.grow) (HY.out.grow s1.grow)).mono ?_; rintro e w2 ⟨l2, v2, g2, rfl, s2, b2⟩)
    | (go_at_call 37; refine (negM _ _ _ _ s1.gr.le b1).mono ?_; rintro e w0 ⟨rfl, hw0⟩; subst w0)
    | (go_at_call 61; refine (unhide AN _ _ _ _ _ _ _ HA.out (by omega) HX.out HY.out).mono ?_; rintro e w1 ⟨l1, v1, g1, rfl, s1, b1⟩))
  go_ret2
  refine ⟨l3, l1, v3, g3, rfl, (s1.trans s2).trans s3, b3.congr fun ins => ?_, b1.grow (s2.trans s3).grow⟩
  cases X ins <;> cases Y ins <;> rfl

set_option maxHeartbeats 1000000 in
theorem three_any (a b c : Int) (X Y Z : List Bool → Bool) (hA : Gr w B M v g) (hl : g.length ≤ 999960) (ha : Lt g a X) (hb : Lt g b Y) (hc : Lt g c Z) :
    Calls Try.prog 47 #[.pointer (some ⟨B, 0, none⟩), .int .i64 a, .int .i64 b, .int .i64 c] w (PP w B M v g 7 (fun ins => threeS (X ins) (Y ins) (Z ins)) (fun ins => threeC (X ins) (Y ins) (Z ins))) := by
  have TN : Hid (∀ W v' g' y x Y X, Gr W B M v' g' → g'.length ≤ 999980 → Lt g' y Y → Lt g' x X → Calls Try.prog 58 #[.pointer (some ⟨B, 0, none⟩), .int .i64 y, .int .i64 x] W (PP W B M v' g' 3 (fun ins => Y ins != X ins) (fun ins => Y ins && X ins))) := fun W v' g' y x Y X h h1 h2 h3 => two_any W B M v' g' y x Y X h h1 h2 h3
  have ON : Hid (∀ W v' g' y x Y X, Gr W B M v' g' → g'.length ≤ 999990 → Lt g' y Y → Lt g' x X → Calls Try.prog 59 #[.pointer (some ⟨B, 0, none⟩), .int .i64 y, .int .i64 x] W (AP W B M v' g' 1 (fun ins => Y ins || X ins))) := fun W v' g' y x Y X h h1 h2 h3 => orM h h1 h2 h3
  have HA := hide hA
  have HX := hide ha
  have HY := hide hb
  have HZ := hide hc
  clear hA ha hb hc
  go_enter Try.func47, Try.ntmps47
  go_wp2_with (first
    | (go_at_call 59; refine (unhide ON _ _ _ _ _ _ _ s2.gr (by have := s1.len; have := s2.len; omega) (c1.grow s2.grow) c2).mono ?_; rintro e w3 ⟨l3, v3, g3, rfl, s3, b3⟩)
    | (go_at_call 58; refine (unhide TN _ _ _ _ _ _ _ s1.gr (by have := s1.len; omega) b1 (HZ.out.grow s1.grow)).mono ?_; rintro e w2 ⟨p2, q2, v2, g2, rfl, s2, b2, c2⟩)
    | (go_at_call 58; refine (unhide TN _ _ _ _ _ _ _ HA.out (by omega) HX.out HY.out).mono ?_; rintro e w1 ⟨p1, q1, v1, g1, rfl, s1, b1, c1⟩))
  go_ret2
  exact ⟨p2, l3, v3, g3, rfl, (s1.trans s2).trans s3, b2.grow s3.grow, b3⟩
end
end Go.Proofs.Ytbilhiklfficoaa
