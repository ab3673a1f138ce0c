/- Contracts: short, rest. -/
import Derived.Test.YtbilhiklfficoaaWalkB
import Derived.Deep.RegionHeld3
import Derived.Deep.QuietTactic
import Derived.Deep.DeepCutAuto
import Derived.Deep.CutBlock
set_option linter.unusedVariables false
set_option linter.unusedSimpArgs false
namespace Go.Proofs.Ytbilhiklfficoaa
open Go.RowKit Go.Maps

theorem box2 (w : World) (c d : Value) (t : TypeId) : (w.alloc (.cells #[c, d] t)).drew.cell? ⟨w.heap.size, 0, none⟩ = some c ∧ (w.alloc (.cells #[c, d] t)).drew.cell? ⟨w.heap.size, 1, none⟩ = some d ∧ Below w.heap.size w (w.alloc (.cells #[c, d] t)).drew := by
  have h := (MapKept.heap_alloc w (.cells #[c, d] t)).1
  refine ⟨?_, ?_, below_drewN (below_alloc w _) 1⟩
  · show (w.alloc (.cells #[c, d] t)).cell? _ = _
    simp only [World.cell?, h]; rfl
  · show (w.alloc (.cells #[c, d] t)).cell? _ = _
    simp only [World.cell?, h]; rfl

set_option maxHeartbeats 2000000 in
theorem short_deep (w : World) (B N cap n i : Nat) (a b na nb c d : Int) (c1 : w.cell? ⟨B, 1, none⟩ = some (.slice (some ⟨N, 0, none⟩) n cap)) (hi : i < n) (hn : n ≤ 1000000) (hB : B < w.heap.size) (hN : N < w.heap.size)
    (e0 : w.cell? ⟨N, i * 2, none⟩ = some (.int .i64 c)) (e1 : w.cell? ⟨N, i * 2 + 1, none⟩ = some (.int .i64 d))
    (P : Hid (∀ W, Calls Try.prog 42 #[.int .i64 b] W fun e w' => e = .returned (.int .i64 (i : Int)) ∧ w' = W)) (ob : Bool)
    (Q : Hid (∀ W, Calls Try.prog 43 #[.int .i64 b] W fun e w' => e = .returned (.bool ob) ∧ w' = W))
    (NA : Hid (∀ W, Calls Try.prog 62 #[.int .i64 a] W fun e w' => e = .returned (.int .i64 na) ∧ w' = W))
    (NB : Hid (∀ W, Calls Try.prog 62 #[.int .i64 b] W fun e w' => e = .returned (.int .i64 nb) ∧ w' = W))
    (h1 : ¬ a = 0) (h2 : ¬ a = nb) (h3 : ¬ a = 1) (h4 : ¬ a = b) :
    Calls Try.prog 63 #[.pointer (some ⟨B, 0, none⟩), .int .i64 a, .int .i64 b] w fun e w' => e = .returned (.int .i64 (if ((c == a || d == a) && !ob) = true then b else if (c == na || d == na) = true then (if ob = false then 0 else a) else -1)) ∧ Below w.heap.size w w' := by
  have hw : w.heap.size ≠ B := by omega
  have hw2 : w.heap.size ≠ N := by omega
  have hw' : B ≠ w.heap.size := by omega
  have hw2' : N ≠ w.heap.size := by omega
  have g1 : (a == 0) = false := by simpa using h1
  have g2 : (a == nb) = false := by simpa using h2
  have g3 : (a == 1) = false := by simpa using h3
  have g4 : (a == b) = false := by simpa using h4
  have d1 : decide (a = 0) = false := by simpa using h1
  have d2 : decide (a = nb) = false := by simpa using h2
  go_enter Try.func63, Try.ntmps63
  go_upto_region 5 with (first | (go_at_call 62; refine (unhide NB _).mono ?_; rintro e w0 ⟨rfl, hw0⟩; subst w0))
  go_cut [7] from 28 to 35 (fun x W => ∃ S, x = .pointer (some ⟨S, 0, none⟩) ∧ W.cell? ⟨S, 0, none⟩ = some (.int .i64 c) ∧ W.cell? ⟨S, 1, none⟩ = some (.int .i64 d) ∧ Hid (Below w.heap.size w W))
  case first =>
    go_wp2
    go_region_held3 (fun z => z.cell? ⟨B, 1, none⟩ = some (.slice (some ⟨N, 0, none⟩) n cap) ∧ z.cell? ⟨N, i * 2, none⟩ = some (.int .i64 c) ∧ z.cell? ⟨N, i * 2 + 1, none⟩ = some (.int .i64 d)) (go_keep) (first | (go_at_call 42; refine (unhide P _).mono ?_; rintro e w0 ⟨rfl, hw0⟩; subst w0))
    all_goals
      go_wp2
      go_meet
      case rel => exact ⟨w.heap.size, rfl, (box2 w _ _ _).1, (box2 w _ _ _).2.1, by first | exact (box2 w _ _ _).2.2 | exact below_alloc w.drew _⟩
  case rest =>
  obtain ⟨S, rfl, k0, k1, HB⟩ := hcut
  clear P NB hw hw2 hw' hw2' e0 e1 c1 hB hN
  obtain ⟨p1, x1⟩ : ∃ p, (c == a) = p := ⟨_, rfl⟩
  obtain ⟨p2, x2⟩ : ∃ p, (d == a) = p := ⟨_, rfl⟩
  obtain ⟨p3, x3⟩ : ∃ p, (c == na) = p := ⟨_, rfl⟩
  obtain ⟨p4, x4⟩ : ∃ p, (d == na) = p := ⟨_, rfl⟩
  have y3 : decide (c = na) = p3 := x3
  cases p1 <;> cases p2 <;> cases p3
  all_goals
    go_wp2
    go_quiet ((go_at_call 62; exact Calls.quiet_of_same (unhide NA _)))
    cases p4 <;> cases ob
  all_goals
    go_wp2_with (first | (go_at_call 43; refine (unhide Q _).mono ?_; rintro e w0 ⟨rfl, hw0⟩; subst w0))
  all_goals
    go_ret
    exact ⟨ret_int (by first | rfl | (rw [x1, x2, x3, x4]; rfl)), below_drewN HB.out _⟩

theorem lit_i64 {g : List Gt} {l : Int} (h : isB g l = true) (hn : g.length ≤ 1000000) : inI64 l ∧ l ≤ 5000000 ∧ 0 ≤ l := by
  rw [isB_iff] at h; unfold inI64; omega
theorem short_eq (g : List Gt) (a b c d : Int) (hk : kid g b = (c, d)) (h1 : ¬ a = 0) (h2 : ¬ a = notI b) (h3 : ¬ a = 1) (h4 : ¬ a = b) :
    shortF g a b = (if ((c == a || d == a) && !oddB b) = true then b else if (c == notI a || d == notI a) = true then (if oddB b = false then 0 else a) else -1) := by
  have ho : oddB b = false ↔ b % 2 = 0 := by unfold oddB; simp; omega
  unfold shortF
  rw [hk]
  simp only [h1, h2, h3, h4, or_self, if_false]
  by_cases hb : b % 2 = 0
  · have : oddB b = false := ho.2 hb
    simp [hb, this]
  · have : oddB b = true := by
      cases hx : oddB b with
      | true => rfl
      | false => exact absurd (ho.1 hx) hb
    simp [hb, this]

theorem short_any (w : World) (B M : Nat) (v : Value) (g : List Gt) (a b : Int) (hA : Gr w B M v g) (ha : isB g a = true) (hb : isB g b = true) (hab : a ≤ b) :
    Calls Try.prog 63 #[.pointer (some ⟨B, 0, none⟩), .int .i64 a, .int .i64 b] w fun e w' => e = .returned (.int .i64 (shortF g a b)) ∧ Below w.heap.size w w' := by
  obtain ⟨ia, la, na⟩ := lit_i64 ha hA.le
  obtain ⟨ib, lb, nb⟩ := lit_i64 hb hA.le
  have NB : Hid (∀ W, Calls Try.prog 62 #[.int .i64 b] W fun e w' => e = .returned (.int .i64 (notI b)) ∧ w' = W) := fun W => not_any W b ib
  have NA : Hid (∀ W, Calls Try.prog 62 #[.int .i64 a] W fun e w' => e = .returned (.int .i64 (notI a)) ∧ w' = W) := fun W => not_any W a ia
  by_cases h1 : a = 0
  · have e : shortF g a b = 0 := by unfold shortF; simp [h1]
    rw [e]
    clear e hA NA ha
    subst h1
    go_enter Try.func63, Try.ntmps63
    go_wp2
    all_goals
      go_ret
      exact ⟨rfl, Below.refl _ _⟩
  by_cases h2 : a = notI b
  · have e : shortF g a b = 0 := by unfold shortF; simp [h2]
    rw [e]
    clear e hA NA ha
    have g1 : (a == 0) = false := by simpa using h1
    have g2 : (a == notI b) = true := by simpa using h2
    have d1 : decide (a = 0) = false := by simpa using h1
    generalize notI b = nb' at *
    go_enter Try.func63, Try.ntmps63
    go_wp2_with (first | (go_at_call 62; refine (unhide NB _).mono ?_; rintro e w0 ⟨rfl, hw0⟩; subst w0))
    all_goals
      go_ret
      exact ⟨rfl, Below.refl _ _⟩
  have g1 : (a == 0) = false := by simpa using h1
  have g2 : (a == notI b) = false := by simpa using h2
  have d1 : decide (a = 0) = false := by simpa using h1
  have d2 : decide (a = notI b) = false := by simpa using h2
  by_cases h3 : a = 1
  · have e : shortF g a b = b := by unfold shortF; rw [if_neg (by simp [h1, h2]), if_pos (.inl h3)]
    rw [e]
    clear e hA NA ha
    have g3 : (a == 1) = true := by simpa using h3
    have d3 : decide (a = 1) = true := by simpa using h3
    generalize notI b = nb' at *
    go_enter Try.func63, Try.ntmps63
    go_wp2_with (first | (go_at_call 62; refine (unhide NB _).mono ?_; rintro e w0 ⟨rfl, hw0⟩; subst w0))
    all_goals
      go_ret
      exact ⟨rfl, Below.refl _ _⟩
  by_cases h4 : a = b
  · have e : shortF g a b = b := by unfold shortF; rw [if_neg (by simp [h1, h2]), if_pos (.inr h4)]
    rw [e]
    clear e hA NA ha
    have g3 : (a == 1) = false := by simpa using h3
    subst h4
    have d3 : decide (a = 1) = false := by simpa using h3
    generalize notI a = nb' at *
    go_enter Try.func63, Try.ntmps63
    go_wp2_with (first | (go_at_call 62; refine (unhide NB _).mono ?_; rintro e w0 ⟨rfl, hw0⟩; subst w0))
    all_goals
      go_ret
      exact ⟨rfl, Below.refl _ _⟩
  have h2b : 2 ≤ b := by
    by_cases hb2 : 2 ≤ b
    · exact hb2
    · have : b = 1 ∨ b = 0 := by omega
      rcases this with rfl | rfl <;> omega
  obtain ⟨i, hi, e1, e2, ek, _⟩ := kid_ok hA.may h2b hb
  rcases hA.form with ⟨rfl, rfl⟩ | ⟨N, c, rfl, hN⟩
  · simp at hi
  obtain ⟨k0, k1⟩ := hA.cell rfl hi
  have hc1 := hA.c1
  obtain ⟨hB, _⟩ := hA.lt
  rw [short_eq g a b g[i].1 g[i].2 ek h1 h2 h3 h4]
  have P : Hid (∀ W, Calls Try.prog 42 #[.int .i64 b] W fun e w' => e = .returned (.int .i64 (i : Int)) ∧ w' = W) := fun W => by rw [e2]; exact place_any W b h2b lb
  have Q : Hid (∀ W, Calls Try.prog 43 #[.int .i64 b] W fun e w' => e = .returned (.bool (oddB b)) ∧ w' = W) := fun W => isNegation_any W b nb lb
  exact short_deep w B N c g.length i a b _ _ _ _ hc1 hi hA.le hB hN k0 k1 P _ Q NA NB h1 h2 h3 h4

set_option maxHeartbeats 2000000 in
theorem rest_any (w : World) (B M : Nat) (v : Value) (g : List Gt) (a b : Int) (hA : Gr w B M v g) (h2b : 2 ≤ b) (ha : isB g a = true) (hb : isB g b = true) :
    Calls Try.prog 64 #[.pointer (some ⟨B, 0, none⟩), .int .i64 a, .int .i64 b] w fun e w' => e = .returned (.int .i64 (restF g a b)) ∧ Below w.heap.size w w' := by
  obtain ⟨ib, lb, nb⟩ := lit_i64 hb hA.le
  obtain ⟨i, hi, e1, e2, ek, ok⟩ := kid_ok hA.may h2b hb
  rcases hA.form with ⟨rfl, rfl⟩ | ⟨N, cap, rfl, hN⟩
  · simp at hi
  obtain ⟨k0, k1⟩ := hA.cell rfl hi
  have c1 := hA.c1
  obtain ⟨hB, _⟩ := hA.lt
  have hn := hA.le
  have hx : restF g a b = if a = g[i].1 then notI g[i].2 else if a = g[i].2 then notI g[i].1 else -1 := by unfold restF; rw [ek]
  rw [hx]
  have hc : inI64 g[i].1 ∧ inI64 g[i].2 := by
    unfold okAt isInB at ok; simp at ok; unfold inI64; omega
  have P : Hid (∀ W, Calls Try.prog 42 #[.int .i64 b] W fun e w' => e = .returned (.int .i64 (i : Int)) ∧ w' = W) := fun W => by rw [e2]; exact place_any W b h2b lb
  have NC : Hid (∀ W, Calls Try.prog 62 #[.int .i64 g[i].1] W fun e w' => e = .returned (.int .i64 (notI g[i].1)) ∧ w' = W) := fun W => not_any W _ hc.1
  have ND : Hid (∀ W, Calls Try.prog 62 #[.int .i64 g[i].2] W fun e w' => e = .returned (.int .i64 (notI g[i].2)) ∧ w' = W) := fun W => not_any W _ hc.2
  clear hx ek hA ha hb e1 e2 ok hc
  generalize notI g[i].1 = nc at *
  generalize notI g[i].2 = nd at *
  generalize g[i].1 = c at *
  generalize g[i].2 = d at *
  generalize g.length = n at *
  have hw : w.heap.size ≠ B := by omega
  have hw2 : w.heap.size ≠ N := by omega
  have hw' : B ≠ w.heap.size := by omega
  have hw2' : N ≠ w.heap.size := by omega
  go_enter Try.func64, Try.ntmps64
  go_upto_region 1 with fail
  go_cut [7] from 8 to 15 (fun x W => ∃ S, x = .pointer (some ⟨S, 0, none⟩) ∧ W.cell? ⟨S, 0, none⟩ = some (.int .i64 c) ∧ W.cell? ⟨S, 1, none⟩ = some (.int .i64 d) ∧ Hid (Below w.heap.size w W))
  case first =>
    go_wp2
    go_region_held3 (fun z => z.cell? ⟨B, 1, none⟩ = some (.slice (some ⟨N, 0, none⟩) n cap) ∧ z.cell? ⟨N, i * 2, none⟩ = some (.int .i64 c) ∧ z.cell? ⟨N, i * 2 + 1, none⟩ = some (.int .i64 d)) (go_keep) (first | (go_at_call 42; refine (unhide P _).mono ?_; rintro e w0 ⟨rfl, hw0⟩; subst w0))
    all_goals
      go_wp2
      go_meet
      case rel => exact ⟨w.heap.size, rfl, (box2 w _ _ _).1, (box2 w _ _ _).2.1, by first | exact (box2 w _ _ _).2.2 | exact below_alloc w.drew _⟩
  case rest =>
  obtain ⟨S, rfl, k0, k1, HB⟩ := hcut
  clear P hw hw2 hw' hw2' c1 hB hN
  by_cases x1 : a = c
  · have y1 : (a == c) = true := by simpa using x1
    go_wp2_with (first | (go_at_call 62; refine (unhide ND _).mono ?_; rintro e w0 ⟨rfl, hw0⟩; subst w0))
    go_ret
    exact ⟨ret_int (by simp), HB.out⟩
  · have y1 : (a == c) = false := by simpa using x1
    by_cases x2 : a = d
    · have y2 : (a == d) = true := by simpa using x2
      go_wp2_with (first | (go_at_call 62; refine (unhide NC _).mono ?_; rintro e w0 ⟨rfl, hw0⟩; subst w0))
      go_ret
      exact ⟨ret_int (by simp [x1]), HB.out⟩
    · have y2 : (a == d) = false := by simpa using x2
      go_wp2
      go_ret
      exact ⟨ret_int (by simp [x1, x2]), HB.out⟩
end Go.Proofs.Ytbilhiklfficoaa
