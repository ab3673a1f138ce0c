/- The law of nobody's graph, walked. -/
import Derived.Test.YtjfjigpmaeaopaaWalkX
set_option linter.unusedVariables false
set_option linter.unusedSimpArgs false
namespace Go.Proofs.Ytjfjigpmaeaopaa
open Go.RowKit Go.Maps

/-- Nobody's graph: nil, or a zero value. -/
def Nob (w : World) (p : Option Addr) : Prop := p = none ∨ ∃ z, p = some ⟨z, 0, none⟩ ∧ w.cell? ⟨z, 0, none⟩ = some (.pointer none) ∧ z < w.heap.size
theorem Nob.below {w W : World} {p : Option Addr} (h : Nob w p) (hb : Below w.heap.size w W) : Nob W p := by
  rcases h with h | ⟨z, h, hc, hz⟩
  · exact .inl h
  · exact .inr ⟨z, h, (World.cell?_of_block (hb.block z hz)).trans hc, Nat.lt_of_lt_of_le hz hb.size⟩

theorem run_eql_none_ptr (w : World) {tp te : TypeId} (a : Addr) (hp : Try.prog.underlying tp = some (.pointer te)) :
    (binOp .eql tp (.pointer none) (.pointer (some a))).run Try.prog w = .ok (.bool false) w := by
  have h : ∀ d : Nat, (Op.equalIn (d + 1) tp (.pointer none) (.pointer (some a))).run Try.prog w = .ok false w := fun d => by
    simp [Op.equalIn, run_underlying hp, sizeOf, typeInfo]
  simp only [binOp]
  simp [Op.equal, Op.maxDepth, h 9999]

set_option maxHeartbeats 400000 in
theorem nobGiven_any (w : World) (p : Option Addr) (h : Nob w p) : Calls Try.prog 32 #[.pointer p] w fun e w' => e = .returned (.bool false) ∧ w' = w := by
  rcases h with rfl | ⟨z, rfl, c0, hz⟩
  · go_enter Try.func32, Try.ntmps32
    go_wp2
    all_goals
      go_ret
      exact ⟨rfl, rfl⟩
  · have heq := run_eql_none_ptr w ⟨z, 0, none⟩ Try.underlying23
    go_enter Try.func32, Try.ntmps32
    go_wp2
    all_goals
      go_ret
      exact ⟨by simp, rfl⟩

set_option maxHeartbeats 400000 in
theorem nobIs_any (w : World) (p : Option Addr) (l : Int) (h : Nob w p) : Calls Try.prog 12 #[.pointer p, .int .i64 l] w fun e w' => e = .returned (.bool false) ∧ w' = w := by
  have G := hide (nobGiven_any w p h)
  clear h
  go_enter Try.func12, Try.ntmps12
  go_wp2_with (first | (go_at_call 32; refine (unhide G).mono ?_; rintro e w0 ⟨rfl, hw0⟩; subst w0))
  all_goals
    go_ret
    exact ⟨rfl, rfl⟩

set_option maxHeartbeats 400000 in
theorem nobAnd_any (w : World) (p : Option Addr) (a b : Int) (h : Nob w p) : Calls Try.prog 20 #[.pointer p, .int .i64 a, .int .i64 b] w fun e w' => e = .returned (.int .i64 (-1)) ∧ w' = w := by
  have G : Hid (∀ l, Calls Try.prog 12 #[.pointer p, .int .i64 l] w fun e w' => e = .returned (.bool false) ∧ w' = w) := fun l => nobIs_any w p l h
  clear h
  go_enter Try.func20, Try.ntmps20
  go_wp2_with (first | (go_at_call 12; refine (unhide G _).mono ?_; rintro e w0 ⟨rfl, hw0⟩; subst w0))
  all_goals
    go_ret
    exact ⟨rfl, rfl⟩

set_option maxHeartbeats 400000 in
theorem nobOr_any (w : World) (p : Option Addr) (a b : Int) (h : Nob w p) (ha : inI64 a) (hb : inI64 b) : Calls Try.prog 22 #[.pointer p, .int .i64 a, .int .i64 b] w fun e w' => e = .returned (.int .i64 (-1)) ∧ w' = w := by
  have A : Hid (∀ x y, Calls Try.prog 20 #[.pointer p, .int .i64 x, .int .i64 y] w fun e w' => e = .returned (.int .i64 (-1)) ∧ w' = w) := fun x y => nobAnd_any w p x y h
  have NN : Hid (∀ W x, inI64 x → Calls Try.prog 45 #[.int .i64 x] W fun e w' => e = .returned (.int .i64 (notI x)) ∧ w' = W) := fun W x hx => not_any W x hx
  clear h
  go_enter Try.func22, Try.ntmps22
  go_wp2_with (first
    | (go_at_call 45; refine (unhide NN _ _ (by assumption)).mono ?_; rintro e w0 ⟨rfl, hw0⟩; subst w0)
    | (go_at_call 20; refine (unhide A _ _).mono ?_; rintro e w0 ⟨rfl, hw0⟩; subst w0))
  all_goals
    go_ret
    exact ⟨rfl, rfl⟩

theorem neg1 : inI64 (-1) := by unfold inI64; omega

set_option maxHeartbeats 400000 in
theorem nobXor_any (w : World) (p : Option Addr) (a b : Int) (h : Nob w p) (ha : inI64 a) (hb : inI64 b) : Calls Try.prog 23 #[.pointer p, .int .i64 a, .int .i64 b] w fun e w' => e = .returned (.int .i64 (-1)) ∧ w' = w := by
  have A : Hid (∀ x y, Calls Try.prog 20 #[.pointer p, .int .i64 x, .int .i64 y] w fun e w' => e = .returned (.int .i64 (-1)) ∧ w' = w) := fun x y => nobAnd_any w p x y h
  have O := hide (nobOr_any w p (-1) (-1) h neg1 neg1)
  have NN : Hid (∀ W x, inI64 x → Calls Try.prog 45 #[.int .i64 x] W fun e w' => e = .returned (.int .i64 (notI x)) ∧ w' = W) := fun W x hx => not_any W x hx
  clear h
  go_enter Try.func23, Try.ntmps23
  go_wp2_with (first
    | (go_at_call 45; refine (unhide NN _ _ (by assumption)).mono ?_; rintro e w0 ⟨rfl, hw0⟩; subst w0)
    | (go_at_call 20; refine (unhide A _ _).mono ?_; rintro e w0 ⟨rfl, hw0⟩; subst w0)
    | (go_at_call 22; refine (unhide O).mono ?_; rintro e w0 ⟨rfl, hw0⟩; subst w0))
  all_goals
    go_ret
    exact ⟨rfl, rfl⟩

set_option maxHeartbeats 400000 in
theorem nobIte_any (w : World) (p : Option Addr) (c a b : Int) (h : Nob w p) (hc : inI64 c) : Calls Try.prog 24 #[.pointer p, .int .i64 c, .int .i64 a, .int .i64 b] w fun e w' => e = .returned (.int .i64 (-1)) ∧ w' = w := by
  have A : Hid (∀ x y, Calls Try.prog 20 #[.pointer p, .int .i64 x, .int .i64 y] w fun e w' => e = .returned (.int .i64 (-1)) ∧ w' = w) := fun x y => nobAnd_any w p x y h
  have O := hide (nobOr_any w p (-1) (-1) h neg1 neg1)
  have NN : Hid (∀ W x, inI64 x → Calls Try.prog 45 #[.int .i64 x] W fun e w' => e = .returned (.int .i64 (notI x)) ∧ w' = W) := fun W x hx => not_any W x hx
  clear h
  go_enter Try.func24, Try.ntmps24
  go_wp2_with (first
    | (go_at_call 45; refine (unhide NN _ _ (by assumption)).mono ?_; rintro e w0 ⟨rfl, hw0⟩; subst w0)
    | (go_at_call 20; refine (unhide A _ _).mono ?_; rintro e w0 ⟨rfl, hw0⟩; subst w0)
    | (go_at_call 22; refine (unhide O).mono ?_; rintro e w0 ⟨rfl, hw0⟩; subst w0))
  all_goals
    go_ret
    exact ⟨rfl, rfl⟩

set_option maxHeartbeats 400000 in
theorem nobIn_any (w : World) (p : Option Addr) (h : Nob w p) : Calls Try.prog 26 #[.pointer p] w fun e w' => e = .returned (.int .i64 (-1)) ∧ w' = w := by
  have G := hide (nobGiven_any w p h)
  clear h
  go_enter Try.func26, Try.ntmps26
  go_wp2_with (first | (go_at_call 32; refine (unhide G).mono ?_; rintro e w0 ⟨rfl, hw0⟩; subst w0))
  all_goals
    go_ret
    exact ⟨rfl, rfl⟩
set_option maxHeartbeats 400000 in
theorem nobNodes_any (w : World) (p : Option Addr) (h : Nob w p) : Calls Try.prog 10 #[.pointer p] w fun e w' => e = .returned (.slice none 0 0) ∧ w' = w := by
  have G := hide (nobGiven_any w p h)
  clear h
  go_enter Try.func10, Try.ntmps10
  go_wp2_with (first | (go_at_call 32; refine (unhide G).mono ?_; rintro e w0 ⟨rfl, hw0⟩; subst w0))
  all_goals
    go_ret
    exact ⟨rfl, rfl⟩
set_option maxHeartbeats 400000 in
theorem nobLen_any (w : World) (p : Option Addr) (h : Nob w p) : Calls Try.prog 11 #[.pointer p] w fun e w' => e = .returned (.int .i64 0) ∧ w' = w := by
  have G := hide (nobGiven_any w p h)
  clear h
  go_enter Try.func11, Try.ntmps11
  go_wp2_with (first | (go_at_call 32; refine (unhide G).mono ?_; rintro e w0 ⟨rfl, hw0⟩; subst w0))
  all_goals
    go_ret
    exact ⟨rfl, rfl⟩

set_option maxHeartbeats 400000 in
theorem nobAll_any (w : World) (p : Option Addr) (q : Nat) (x : Int) (h : Nob w p) (hc : w.cell? ⟨q, 0, none⟩ = some (.int .i64 x)) : Calls Try.prog 25 #[.pointer p, .slice (some ⟨q, 0, none⟩) 1 1] w fun e w' => e = .returned (.int .i64 (-1)) ∧ w' = w := by
  have A : Hid (∀ x y, Calls Try.prog 20 #[.pointer p, .int .i64 x, .int .i64 y] w fun e w' => e = .returned (.int .i64 (-1)) ∧ w' = w) := fun x y => nobAnd_any w p x y h
  clear h
  go_enter Try.func25, Try.ntmps25
  go_upto_region 2 with (first
    | (go_at_call 20; refine (unhide A _ _).mono ?_; rintro e w0 ⟨rfl, hw0⟩; subst w0))
  go_wp2
  go_loopw [5, 12] (fun y i W => ∃ k : Nat, k ≤ 1 ∧ i = .int .i64 (k : Int) ∧ y = .int .i64 (-1) ∧ W = w) (fun _ i _ => (1 - intOf i).toNat)
  case atStart => exact ⟨0, Nat.zero_le _, rfl, rfl, rfl⟩
  case round =>
    obtain ⟨k, hk, rfl, rfl, rfl⟩ := hrel
    by_cases hk0 : k = 0
    · subst hk0
      go_wp2_with (first
        | (go_at_call 20; refine (unhide A _ _).mono ?_; rintro e w0 ⟨rfl, hw0⟩; subst w0))
      go_roundw
      case rel => exact ⟨1, Nat.le_refl _, by go_num, rfl, by trivial⟩
      case measure => simp [intOf]
    · have hk1 : ¬ (k : Int) < 1 := by omega
      go_wp2
      go_ret
      exact ⟨rfl, rfl⟩
end Go.Proofs.Ytjfjigpmaeaopaa
