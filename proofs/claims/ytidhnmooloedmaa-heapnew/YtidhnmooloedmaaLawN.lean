/- Every call of a heap that New did not give; the law of new heaps, walked. -/
import Derived.Test.YtidhnmooloedmaaWalkX
set_option linter.unusedVariables false
set_option linter.unusedSimpArgs false
namespace Go.Proofs.Ytidhnmooloedmaa
open Go.RowKit

/-- Nobody: nil, or a zero value. -/
def Nob (w : World) (z : Value) : Prop := z = .pointer none ∨ ∃ B, z = .pointer (some ⟨B, 0, none⟩) ∧ w.cell? ⟨B, 0, none⟩ = some (.pointer none)

theorem run_eql_none_ptr (w : World) {tp te : TypeId} (a : Addr) (hp : Try.prog.underlying tp = some (.pointer te)) :
    (binOp .eql tp (.pointer none) (.pointer (some a))).run Try.prog w = .ok (.bool false) w := by
  have h : ∀ d : Nat, (Op.equalIn (d + 1) tp (.pointer none) (.pointer (some a))).run Try.prog w = .ok false w := fun d => by
    simp [Op.equalIn, run_underlying hp, sizeOf, typeInfo]
  simp only [binOp]
  simp [Op.equal, Op.maxDepth, h 9999]

theorem given_nob {w : World} {z : Value} (h : Nob w z) : Calls Try.prog 28 #[z] w fun e w' => e = .returned (.bool false) ∧ w' = w := by
  rcases h with rfl | ⟨B, rfl, hc⟩
  · go_enter Try.func28, Try.ntmps28
    go_wp2
    all_goals
      go_ret
      exact ⟨ret_bool (by simp), rfl⟩
  · have heq := run_eql_none_ptr w ⟨B, 0, none⟩ Try.underlying23
    go_enter Try.func28, Try.ntmps28
    go_wp2
    all_goals
      go_ret
      exact ⟨ret_bool (by simp), rfl⟩
theorem isVar_nob {w : World} {z : Value} (h : Nob w z) (v : Int) : Calls Try.prog 29 #[z, .int .i64 v] w fun e w' => e = .returned (.bool false) ∧ w' = w := by
  have G := hide (given_nob h)
  clear h
  go_enter Try.func29, Try.ntmps29
  go_wp2_with (go_at_call 28; refine (unhide G).mono ?_; rintro e w0 ⟨rfl, hw0⟩; subst w0)
  all_goals
    go_ret
    exact ⟨ret_bool (by simp), rfl⟩
theorem len_nob {w : World} {z : Value} (h : Nob w z) : Calls Try.prog 13 #[z] w fun e w' => e = .returned (.int .i64 0) ∧ w' = w := by
  have G := hide (given_nob h)
  clear h
  go_enter Try.func13, Try.ntmps13
  go_wp2_with (go_at_call 28; refine (unhide G).mono ?_; rintro e w0 ⟨rfl, hw0⟩; subst w0)
  go_ret
  exact ⟨rfl, rfl⟩
theorem step_nob {w : World} {z : Value} (h : Nob w z) : Calls Try.prog 17 #[z] w fun e w' => e = .returned (.int .i64 0) ∧ w' = w := by
  have G := hide (given_nob h)
  clear h
  go_enter Try.func17, Try.ntmps17
  go_wp2_with (go_at_call 28; refine (unhide G).mono ?_; rintro e w0 ⟨rfl, hw0⟩; subst w0)
  go_ret
  exact ⟨rfl, rfl⟩
theorem decay_nob {w : World} {z : Value} (h : Nob w z) : Calls Try.prog 15 #[z] w fun e w' => e = .returned (.tuple #[]) ∧ w' = w := by
  have G := hide (given_nob h)
  clear h
  go_enter Try.func15, Try.ntmps15
  go_wp2_with (go_at_call 28; refine (unhide G).mono ?_; rintro e w0 ⟨rfl, hw0⟩; subst w0)
  exact bodyPost_ret (v := .tuple #[]) (by simp [results, Try.results15, go_sem]) rfl ⟨rfl, rfl⟩
theorem best_nob {w : World} {z : Value} (h : Nob w z) : Calls Try.prog 20 #[z] w fun e w' => e = .returned (.tuple #[.int .i64 0, .bool false]) ∧ w' = w := by
  have G := hide (len_nob h)
  clear h
  go_enter Try.func20, Try.ntmps20
  go_wp2_with (go_at_call 13; refine (unhide G).mono ?_; rintro e w0 ⟨rfl, hw0⟩; subst w0)
  go_ret2
  exact ⟨rfl, rfl⟩
theorem pop_nob {w : World} {z : Value} (h : Nob w z) : Calls Try.prog 11 #[z] w fun e w' => e = .returned (.tuple #[.int .i64 0, .bool false]) ∧ w' = w := by
  have G := hide (best_nob h)
  clear h
  go_enter Try.func11, Try.ntmps11
  go_wp2_with (go_at_call 20; refine (unhide G).mono ?_; rintro e w0 ⟨rfl, hw0⟩; subst w0)
  go_ret2
  exact ⟨rfl, rfl⟩
theorem push_nob {w : World} {z : Value} (h : Nob w z) (v : Int) : Calls Try.prog 21 #[z, .int .i64 v] w fun e w' => e = .returned (.int .i64 1) ∧ w' = w := by
  have G := hide (isVar_nob h v)
  clear h
  go_enter Try.func21, Try.ntmps21
  go_wp2_with (go_at_call 29; refine (unhide G).mono ?_; rintro e w0 ⟨rfl, hw0⟩; subst w0)
  go_ret
  exact ⟨rfl, rfl⟩
theorem bump_nob {w : World} {z : Value} (h : Nob w z) (v : Int) : Calls Try.prog 22 #[z, .int .i64 v] w fun e w' => e = .returned (.int .i64 1) ∧ w' = w := by
  have G := hide (isVar_nob h v)
  clear h
  go_enter Try.func22, Try.ntmps22
  go_wp2_with (go_at_call 29; refine (unhide G).mono ?_; rintro e w0 ⟨rfl, hw0⟩; subst w0)
  go_ret
  exact ⟨rfl, rfl⟩
theorem has_nob {w : World} {z : Value} (h : Nob w z) (v : Int) : Calls Try.prog 19 #[z, .int .i64 v] w fun e w' => e = .returned (.bool false) ∧ w' = w := by
  have G := hide (isVar_nob h v)
  clear h
  go_enter Try.func19, Try.ntmps19
  go_wp2_with (go_at_call 29; refine (unhide G).mono ?_; rintro e w0 ⟨rfl, hw0⟩; subst w0)
  all_goals
    go_ret
    exact ⟨ret_bool (by simp), rfl⟩
theorem score_nob {w : World} {z : Value} (h : Nob w z) (v : Int) : Calls Try.prog 14 #[z, .int .i64 v] w fun e w' => e = .returned (.int .i64 0) ∧ w' = w := by
  have G := hide (isVar_nob h v)
  clear h
  go_enter Try.func14, Try.ntmps14
  go_wp2_with (go_at_call 29; refine (unhide G).mono ?_; rintro e w0 ⟨rfl, hw0⟩; subst w0)
  go_ret
  exact ⟨rfl, rfl⟩

/-- All calls of nobody's heap, at a world. -/
structure Nobs (W : World) (z : Value) (v : Int) : Prop where
  dec : Calls Try.prog 15 #[z] W fun e w' => e = .returned (.tuple #[]) ∧ w' = W
  best : Calls Try.prog 20 #[z] W fun e w' => e = .returned (.tuple #[.int .i64 0, .bool false]) ∧ w' = W
  pop : Calls Try.prog 11 #[z] W fun e w' => e = .returned (.tuple #[.int .i64 0, .bool false]) ∧ w' = W
  push : Calls Try.prog 21 #[z, .int .i64 v] W fun e w' => e = .returned (.int .i64 1) ∧ w' = W
  bump : Calls Try.prog 22 #[z, .int .i64 v] W fun e w' => e = .returned (.int .i64 1) ∧ w' = W
  has : Calls Try.prog 19 #[z, .int .i64 v] W fun e w' => e = .returned (.bool false) ∧ w' = W
  score : Calls Try.prog 14 #[z, .int .i64 v] W fun e w' => e = .returned (.int .i64 0) ∧ w' = W
  step : Calls Try.prog 17 #[z] W fun e w' => e = .returned (.int .i64 0) ∧ w' = W
  len : Calls Try.prog 13 #[z] W fun e w' => e = .returned (.int .i64 0) ∧ w' = W
theorem nobs {W : World} {z : Value} (h : Nob W z) (v : Int) : Nobs W z v :=
  ⟨decay_nob h, best_nob h, pop_nob h, push_nob h v, bump_nob h v, has_nob h v, score_nob h v, step_nob h, len_nob h⟩

/-- What New tells of any number up to 5000, and what is told of the new heap. -/
def NewP (w : World) (n : Nat) (e : Ending) (w' : World) : Prop :=
  ∃ B S P O, e = .returned (.tuple #[.pointer (some ⟨B, 0, none⟩), .int .i64 0]) ∧ Hp w' B S P O n n (HS.mk2 n n) ∧ Below w.heap.size w w'
theorem new_told (w : World) (n : Nat) (h : n ≤ 1048576) : Calls Try.prog 18 #[.int .i64 (n : Int)] w (NewP w n) :=
  (new_yes w n h).mono fun e w' ⟨B, S, P, O, he, hp, hb, _⟩ => ⟨B, S, P, O, he, hp, hb⟩
theorem has_mk2 (w : World) (B S P O c n : Nat) (v : Int) (hA : Hp w B S P O c n (HS.mk2 n n)) : Calls Try.prog 19 #[.pointer (some ⟨B, 0, none⟩), .int .i64 v] w fun e w' => e = .returned (.bool (varB n v)) ∧ w' = w := by
  cases hv : varB n v with
  | false => exact has_no w B S P O c n _ v hA hv
  | true =>
    obtain ⟨u, rfl, h1, h2⟩ := varB_yes hv
    have := has_yes w B S P O c n _ u hA h1 h2
    rw [mk2_in h2, decide_eq_true (by omega)] at this
    exact this

set_option maxHeartbeats 4000000 in
set_option maxRecDepth 100000 in
theorem new_any (w : World) (n v : Int) :
    Calls Try.prog 6 #[.int .i64 n, .int .i64 v] w fun e w' => e = .returned (.bool true) ∧ Below w.heap.size w w' := by
  have G2 : Hid (∀ W, Calls Try.prog 9 #[] W fun e w' => e = .returned (.bool true) ∧ Below W.heap.size W w') := fun W => awake_any W
  by_cases hbad : n < 0 ∨ 1048576 < n
  · have G := hide (new_no w n hbad)
    rcases hbad with hbad | hbad
    all_goals
      go_enter Try.func6, Try.ntmps6
      go_upto_region 9 with (first | (go_at_call 18; refine (unhide G).mono ?_; rintro e w0 ⟨rfl, hw0⟩; subst w0))
      refine forget (P := fun W => Code.wp Try.prog _ _ _ W) (fun W => Hid (Below w.heap.size w W)) (Below.refl _ _) ?_
      intro W1 HB1
      clear G
      go_wp2
      go_loopw [7] (fun x W => ∃ k : Nat, k ≤ 2 ∧ x = .int .i64 (k : Int) ∧ Hid (Below w.heap.size w W)) (fun x _ => 2 - (intOf x).toNat)
      case atStart => exact ⟨0, by omega, rfl, HB1⟩
      case round =>
        obtain ⟨k, hk, rfl, HB⟩ := hrel
        clear HB1
        by_cases hk2 : k < 2
        · by_cases hk1 : k = 1
          · subst hk1
            have HN := hide (nobs (W := wr.alloc (.cells #[.pointer none, .slice none 0 0, .slice none 0 0, .slice none 0 0, .int .i64 0] 46)) (z := .pointer (some ⟨wr.heap.size, 0, none⟩)) (.inr ⟨_, rfl, by rw [World.cell?_alloc_at _ _ _ _ rfl]; rfl⟩) v)
            go_wp2_with (first | (go_at_call 15; refine (Hid.out HN).dec.mono ?_; rintro e w0 ⟨rfl, hw0⟩; subst w0) | (go_at_call 20; refine (Hid.out HN).best.mono ?_; rintro e w0 ⟨rfl, hw0⟩; subst w0) | (go_at_call 11; refine (Hid.out HN).pop.mono ?_; rintro e w0 ⟨rfl, hw0⟩; subst w0) | (go_at_call 21; refine (Hid.out HN).push.mono ?_; rintro e w0 ⟨rfl, hw0⟩; subst w0) | (go_at_call 22; refine (Hid.out HN).bump.mono ?_; rintro e w0 ⟨rfl, hw0⟩; subst w0) | (go_at_call 19; refine (Hid.out HN).has.mono ?_; rintro e w0 ⟨rfl, hw0⟩; subst w0) | (go_at_call 14; refine (Hid.out HN).score.mono ?_; rintro e w0 ⟨rfl, hw0⟩; subst w0) | (go_at_call 17; refine (Hid.out HN).step.mono ?_; rintro e w0 ⟨rfl, hw0⟩; subst w0) | (go_at_call 13; refine (Hid.out HN).len.mono ?_; rintro e w0 ⟨rfl, hw0⟩; subst w0))
            go_roundw
            case rel => exact ⟨2, by omega, by go_num, HB.out.alloc HB.out.size _⟩
            case measure => simp [intOf]
          · have hk0 : k = 0 := by omega
            subst hk0
            have HN := hide (nobs (W := wr) (z := .pointer none) (.inl rfl) v)
            go_wp2_with (first | (go_at_call 15; refine (Hid.out HN).dec.mono ?_; rintro e w0 ⟨rfl, hw0⟩; subst w0) | (go_at_call 20; refine (Hid.out HN).best.mono ?_; rintro e w0 ⟨rfl, hw0⟩; subst w0) | (go_at_call 11; refine (Hid.out HN).pop.mono ?_; rintro e w0 ⟨rfl, hw0⟩; subst w0) | (go_at_call 21; refine (Hid.out HN).push.mono ?_; rintro e w0 ⟨rfl, hw0⟩; subst w0) | (go_at_call 22; refine (Hid.out HN).bump.mono ?_; rintro e w0 ⟨rfl, hw0⟩; subst w0) | (go_at_call 19; refine (Hid.out HN).has.mono ?_; rintro e w0 ⟨rfl, hw0⟩; subst w0) | (go_at_call 14; refine (Hid.out HN).score.mono ?_; rintro e w0 ⟨rfl, hw0⟩; subst w0) | (go_at_call 17; refine (Hid.out HN).step.mono ?_; rintro e w0 ⟨rfl, hw0⟩; subst w0) | (go_at_call 13; refine (Hid.out HN).len.mono ?_; rintro e w0 ⟨rfl, hw0⟩; subst w0))
            go_roundw
            case rel => exact ⟨1, by omega, by go_num, HB⟩
            case measure => simp [intOf]
        · go_wp2_with (first | (go_at_call 9; refine (unhide G2 _).mono ?_; rintro e w3 ⟨rfl, hb3⟩))
          go_ret
          exact ⟨rfl, HB.out.trans (hb3.mono HB.out.size)⟩
  · have hn0 : 0 ≤ n := by omega
    have hn1 : n ≤ 1048576 := by omega
    clear hbad
    by_cases h5 : 5000 < n
    · have G := hide (new_told w 5000 (by omega))
      go_enter Try.func6, Try.ntmps6
      go_upto_region 7 with (first | (go_at_call 18; refine (unhide G).mono ?_; rintro e w1 ⟨B, S, P, O, rfl, hp, hb⟩))
      have GL := hide (len_any w1 B S P O 5000 5000 _ hp)
      have GT := hide (step_any w1 B S P O 5000 5000 _ hp)
      have GH := hide (has_mk2 w1 B S P O 5000 5000 v hp)
      have HB0 := hide hb
      clear hp hb G
      have hv3 : v < 1 ∨ (1 ≤ v ∧ (5000 : Int) < v) ∨ (1 ≤ v ∧ v ≤ (5000 : Int)) := by omega
      rcases hv3 with hv | ⟨hv, hw⟩ | ⟨hv, hw⟩
      · rw [show varB 5000 v = false from by simp [varB]; omega] at GH
        go_upto_region 9 with (first | (go_at_call 13; refine (unhide GL).mono ?_; rintro e w0 ⟨rfl, hw0⟩; subst w0) | (go_at_call 17; refine (unhide GT).mono ?_; rintro e w0 ⟨rfl, hw0⟩; subst w0) | (go_at_call 19; refine (unhide GH).mono ?_; rintro e w0 ⟨rfl, hw0⟩; subst w0))
        refine forget (P := fun W => Code.wp Try.prog _ _ _ W) (fun W => Hid (Below w.heap.size w W)) HB0 ?_
        intro W1 HB1
        clear GL GT GH HB0
        go_wp2
        go_loopw [7] (fun x W => ∃ k : Nat, k ≤ 2 ∧ x = .int .i64 (k : Int) ∧ Hid (Below w.heap.size w W)) (fun x _ => 2 - (intOf x).toNat)
        case atStart => exact ⟨0, by omega, rfl, HB1⟩
        case round =>
          obtain ⟨k, hk, rfl, HB⟩ := hrel
          clear HB1
          by_cases hk2 : k < 2
          · by_cases hk1 : k = 1
            · subst hk1
              have HN := hide (nobs (W := wr.alloc (.cells #[.pointer none, .slice none 0 0, .slice none 0 0, .slice none 0 0, .int .i64 0] 46)) (z := .pointer (some ⟨wr.heap.size, 0, none⟩)) (.inr ⟨_, rfl, by rw [World.cell?_alloc_at _ _ _ _ rfl]; rfl⟩) v)
              go_wp2_with (first | (go_at_call 15; refine (Hid.out HN).dec.mono ?_; rintro e w0 ⟨rfl, hw0⟩; subst w0) | (go_at_call 20; refine (Hid.out HN).best.mono ?_; rintro e w0 ⟨rfl, hw0⟩; subst w0) | (go_at_call 11; refine (Hid.out HN).pop.mono ?_; rintro e w0 ⟨rfl, hw0⟩; subst w0) | (go_at_call 21; refine (Hid.out HN).push.mono ?_; rintro e w0 ⟨rfl, hw0⟩; subst w0) | (go_at_call 22; refine (Hid.out HN).bump.mono ?_; rintro e w0 ⟨rfl, hw0⟩; subst w0) | (go_at_call 19; refine (Hid.out HN).has.mono ?_; rintro e w0 ⟨rfl, hw0⟩; subst w0) | (go_at_call 14; refine (Hid.out HN).score.mono ?_; rintro e w0 ⟨rfl, hw0⟩; subst w0) | (go_at_call 17; refine (Hid.out HN).step.mono ?_; rintro e w0 ⟨rfl, hw0⟩; subst w0) | (go_at_call 13; refine (Hid.out HN).len.mono ?_; rintro e w0 ⟨rfl, hw0⟩; subst w0))
              go_roundw
              case rel => exact ⟨2, by omega, by go_num, HB.out.alloc HB.out.size _⟩
              case measure => simp [intOf]
            · have hk0 : k = 0 := by omega
              subst hk0
              have HN := hide (nobs (W := wr) (z := .pointer none) (.inl rfl) v)
              go_wp2_with (first | (go_at_call 15; refine (Hid.out HN).dec.mono ?_; rintro e w0 ⟨rfl, hw0⟩; subst w0) | (go_at_call 20; refine (Hid.out HN).best.mono ?_; rintro e w0 ⟨rfl, hw0⟩; subst w0) | (go_at_call 11; refine (Hid.out HN).pop.mono ?_; rintro e w0 ⟨rfl, hw0⟩; subst w0) | (go_at_call 21; refine (Hid.out HN).push.mono ?_; rintro e w0 ⟨rfl, hw0⟩; subst w0) | (go_at_call 22; refine (Hid.out HN).bump.mono ?_; rintro e w0 ⟨rfl, hw0⟩; subst w0) | (go_at_call 19; refine (Hid.out HN).has.mono ?_; rintro e w0 ⟨rfl, hw0⟩; subst w0) | (go_at_call 14; refine (Hid.out HN).score.mono ?_; rintro e w0 ⟨rfl, hw0⟩; subst w0) | (go_at_call 17; refine (Hid.out HN).step.mono ?_; rintro e w0 ⟨rfl, hw0⟩; subst w0) | (go_at_call 13; refine (Hid.out HN).len.mono ?_; rintro e w0 ⟨rfl, hw0⟩; subst w0))
              go_roundw
              case rel => exact ⟨1, by omega, by go_num, HB⟩
              case measure => simp [intOf]
          · go_wp2_with (first | (go_at_call 9; refine (unhide G2 _).mono ?_; rintro e w3 ⟨rfl, hb3⟩))
            go_ret
            exact ⟨rfl, HB.out.trans (hb3.mono HB.out.size)⟩
      · rw [show varB 5000 v = false from by simp [varB]; omega] at GH
        go_upto_region 9 with (first | (go_at_call 13; refine (unhide GL).mono ?_; rintro e w0 ⟨rfl, hw0⟩; subst w0) | (go_at_call 17; refine (unhide GT).mono ?_; rintro e w0 ⟨rfl, hw0⟩; subst w0) | (go_at_call 19; refine (unhide GH).mono ?_; rintro e w0 ⟨rfl, hw0⟩; subst w0))
        refine forget (P := fun W => Code.wp Try.prog _ _ _ W) (fun W => Hid (Below w.heap.size w W)) HB0 ?_
        intro W1 HB1
        clear GL GT GH HB0
        go_wp2
        go_loopw [7] (fun x W => ∃ k : Nat, k ≤ 2 ∧ x = .int .i64 (k : Int) ∧ Hid (Below w.heap.size w W)) (fun x _ => 2 - (intOf x).toNat)
        case atStart => exact ⟨0, by omega, rfl, HB1⟩
        case round =>
          obtain ⟨k, hk, rfl, HB⟩ := hrel
          clear HB1
          by_cases hk2 : k < 2
          · by_cases hk1 : k = 1
            · subst hk1
              have HN := hide (nobs (W := wr.alloc (.cells #[.pointer none, .slice none 0 0, .slice none 0 0, .slice none 0 0, .int .i64 0] 46)) (z := .pointer (some ⟨wr.heap.size, 0, none⟩)) (.inr ⟨_, rfl, by rw [World.cell?_alloc_at _ _ _ _ rfl]; rfl⟩) v)
              go_wp2_with (first | (go_at_call 15; refine (Hid.out HN).dec.mono ?_; rintro e w0 ⟨rfl, hw0⟩; subst w0) | (go_at_call 20; refine (Hid.out HN).best.mono ?_; rintro e w0 ⟨rfl, hw0⟩; subst w0) | (go_at_call 11; refine (Hid.out HN).pop.mono ?_; rintro e w0 ⟨rfl, hw0⟩; subst w0) | (go_at_call 21; refine (Hid.out HN).push.mono ?_; rintro e w0 ⟨rfl, hw0⟩; subst w0) | (go_at_call 22; refine (Hid.out HN).bump.mono ?_; rintro e w0 ⟨rfl, hw0⟩; subst w0) | (go_at_call 19; refine (Hid.out HN).has.mono ?_; rintro e w0 ⟨rfl, hw0⟩; subst w0) | (go_at_call 14; refine (Hid.out HN).score.mono ?_; rintro e w0 ⟨rfl, hw0⟩; subst w0) | (go_at_call 17; refine (Hid.out HN).step.mono ?_; rintro e w0 ⟨rfl, hw0⟩; subst w0) | (go_at_call 13; refine (Hid.out HN).len.mono ?_; rintro e w0 ⟨rfl, hw0⟩; subst w0))
              go_roundw
              case rel => exact ⟨2, by omega, by go_num, HB.out.alloc HB.out.size _⟩
              case measure => simp [intOf]
            · have hk0 : k = 0 := by omega
              subst hk0
              have HN := hide (nobs (W := wr) (z := .pointer none) (.inl rfl) v)
              go_wp2_with (first | (go_at_call 15; refine (Hid.out HN).dec.mono ?_; rintro e w0 ⟨rfl, hw0⟩; subst w0) | (go_at_call 20; refine (Hid.out HN).best.mono ?_; rintro e w0 ⟨rfl, hw0⟩; subst w0) | (go_at_call 11; refine (Hid.out HN).pop.mono ?_; rintro e w0 ⟨rfl, hw0⟩; subst w0) | (go_at_call 21; refine (Hid.out HN).push.mono ?_; rintro e w0 ⟨rfl, hw0⟩; subst w0) | (go_at_call 22; refine (Hid.out HN).bump.mono ?_; rintro e w0 ⟨rfl, hw0⟩; subst w0) | (go_at_call 19; refine (Hid.out HN).has.mono ?_; rintro e w0 ⟨rfl, hw0⟩; subst w0) | (go_at_call 14; refine (Hid.out HN).score.mono ?_; rintro e w0 ⟨rfl, hw0⟩; subst w0) | (go_at_call 17; refine (Hid.out HN).step.mono ?_; rintro e w0 ⟨rfl, hw0⟩; subst w0) | (go_at_call 13; refine (Hid.out HN).len.mono ?_; rintro e w0 ⟨rfl, hw0⟩; subst w0))
              go_roundw
              case rel => exact ⟨1, by omega, by go_num, HB⟩
              case measure => simp [intOf]
          · go_wp2_with (first | (go_at_call 9; refine (unhide G2 _).mono ?_; rintro e w3 ⟨rfl, hb3⟩))
            go_ret
            exact ⟨rfl, HB.out.trans (hb3.mono HB.out.size)⟩
      · rw [show varB 5000 v = true from by simp [varB]; omega] at GH
        go_upto_region 9 with (first | (go_at_call 13; refine (unhide GL).mono ?_; rintro e w0 ⟨rfl, hw0⟩; subst w0) | (go_at_call 17; refine (unhide GT).mono ?_; rintro e w0 ⟨rfl, hw0⟩; subst w0) | (go_at_call 19; refine (unhide GH).mono ?_; rintro e w0 ⟨rfl, hw0⟩; subst w0))
        refine forget (P := fun W => Code.wp Try.prog _ _ _ W) (fun W => Hid (Below w.heap.size w W)) HB0 ?_
        intro W1 HB1
        clear GL GT GH HB0
        go_wp2
        go_loopw [7] (fun x W => ∃ k : Nat, k ≤ 2 ∧ x = .int .i64 (k : Int) ∧ Hid (Below w.heap.size w W)) (fun x _ => 2 - (intOf x).toNat)
        case atStart => exact ⟨0, by omega, rfl, HB1⟩
        case round =>
          obtain ⟨k, hk, rfl, HB⟩ := hrel
          clear HB1
          by_cases hk2 : k < 2
          · by_cases hk1 : k = 1
            · subst hk1
              have HN := hide (nobs (W := wr.alloc (.cells #[.pointer none, .slice none 0 0, .slice none 0 0, .slice none 0 0, .int .i64 0] 46)) (z := .pointer (some ⟨wr.heap.size, 0, none⟩)) (.inr ⟨_, rfl, by rw [World.cell?_alloc_at _ _ _ _ rfl]; rfl⟩) v)
              go_wp2_with (first | (go_at_call 15; refine (Hid.out HN).dec.mono ?_; rintro e w0 ⟨rfl, hw0⟩; subst w0) | (go_at_call 20; refine (Hid.out HN).best.mono ?_; rintro e w0 ⟨rfl, hw0⟩; subst w0) | (go_at_call 11; refine (Hid.out HN).pop.mono ?_; rintro e w0 ⟨rfl, hw0⟩; subst w0) | (go_at_call 21; refine (Hid.out HN).push.mono ?_; rintro e w0 ⟨rfl, hw0⟩; subst w0) | (go_at_call 22; refine (Hid.out HN).bump.mono ?_; rintro e w0 ⟨rfl, hw0⟩; subst w0) | (go_at_call 19; refine (Hid.out HN).has.mono ?_; rintro e w0 ⟨rfl, hw0⟩; subst w0) | (go_at_call 14; refine (Hid.out HN).score.mono ?_; rintro e w0 ⟨rfl, hw0⟩; subst w0) | (go_at_call 17; refine (Hid.out HN).step.mono ?_; rintro e w0 ⟨rfl, hw0⟩; subst w0) | (go_at_call 13; refine (Hid.out HN).len.mono ?_; rintro e w0 ⟨rfl, hw0⟩; subst w0))
              go_roundw
              case rel => exact ⟨2, by omega, by go_num, HB.out.alloc HB.out.size _⟩
              case measure => simp [intOf]
            · have hk0 : k = 0 := by omega
              subst hk0
              have HN := hide (nobs (W := wr) (z := .pointer none) (.inl rfl) v)
              go_wp2_with (first | (go_at_call 15; refine (Hid.out HN).dec.mono ?_; rintro e w0 ⟨rfl, hw0⟩; subst w0) | (go_at_call 20; refine (Hid.out HN).best.mono ?_; rintro e w0 ⟨rfl, hw0⟩; subst w0) | (go_at_call 11; refine (Hid.out HN).pop.mono ?_; rintro e w0 ⟨rfl, hw0⟩; subst w0) | (go_at_call 21; refine (Hid.out HN).push.mono ?_; rintro e w0 ⟨rfl, hw0⟩; subst w0) | (go_at_call 22; refine (Hid.out HN).bump.mono ?_; rintro e w0 ⟨rfl, hw0⟩; subst w0) | (go_at_call 19; refine (Hid.out HN).has.mono ?_; rintro e w0 ⟨rfl, hw0⟩; subst w0) | (go_at_call 14; refine (Hid.out HN).score.mono ?_; rintro e w0 ⟨rfl, hw0⟩; subst w0) | (go_at_call 17; refine (Hid.out HN).step.mono ?_; rintro e w0 ⟨rfl, hw0⟩; subst w0) | (go_at_call 13; refine (Hid.out HN).len.mono ?_; rintro e w0 ⟨rfl, hw0⟩; subst w0))
              go_roundw
              case rel => exact ⟨1, by omega, by go_num, HB⟩
              case measure => simp [intOf]
          · go_wp2_with (first | (go_at_call 9; refine (unhide G2 _).mono ?_; rintro e w3 ⟨rfl, hb3⟩))
            go_ret
            exact ⟨rfl, HB.out.trans (hb3.mono HB.out.size)⟩
    · obtain ⟨m, rfl⟩ : ∃ m : Nat, n = (m : Int) := ⟨n.toNat, by omega⟩
      have hm : m ≤ 5000 := by omega
      have G := hide (new_told w m (by omega))
      go_enter Try.func6, Try.ntmps6
      go_upto_region 7 with (first | (go_at_call 18; refine (unhide G).mono ?_; rintro e w1 ⟨B, S, P, O, rfl, hp, hb⟩))
      have GL : Hid (Calls Try.prog 13 #[.pointer (some ⟨B, 0, none⟩)] w1 fun e w' => e = .returned (.int .i64 (m : Int)) ∧ w' = w1) := len_any w1 B S P O m m _ hp
      have GT := hide (step_any w1 B S P O m m _ hp)
      have GH := hide (has_mk2 w1 B S P O m m v hp)
      have HB0 := hide hb
      clear hp hb G
      have hv3 : v < 1 ∨ (1 ≤ v ∧ (m : Int) < v) ∨ (1 ≤ v ∧ v ≤ (m : Int)) := by omega
      rcases hv3 with hv | ⟨hv, hw⟩ | ⟨hv, hw⟩
      · rw [show varB m v = false from by simp [varB]; omega] at GH
        go_upto_region 9 with (first | (go_at_call 13; refine (unhide GL).mono ?_; rintro e w0 ⟨rfl, hw0⟩; subst w0) | (go_at_call 17; refine (unhide GT).mono ?_; rintro e w0 ⟨rfl, hw0⟩; subst w0) | (go_at_call 19; refine (unhide GH).mono ?_; rintro e w0 ⟨rfl, hw0⟩; subst w0))
        refine forget (P := fun W => Code.wp Try.prog _ _ _ W) (fun W => Hid (Below w.heap.size w W)) HB0 ?_
        intro W1 HB1
        clear GL GT GH HB0
        go_wp2
        go_loopw [7] (fun x W => ∃ k : Nat, k ≤ 2 ∧ x = .int .i64 (k : Int) ∧ Hid (Below w.heap.size w W)) (fun x _ => 2 - (intOf x).toNat)
        case atStart => exact ⟨0, by omega, rfl, HB1⟩
        case round =>
          obtain ⟨k, hk, rfl, HB⟩ := hrel
          clear HB1
          by_cases hk2 : k < 2
          · by_cases hk1 : k = 1
            · subst hk1
              have HN := hide (nobs (W := wr.alloc (.cells #[.pointer none, .slice none 0 0, .slice none 0 0, .slice none 0 0, .int .i64 0] 46)) (z := .pointer (some ⟨wr.heap.size, 0, none⟩)) (.inr ⟨_, rfl, by rw [World.cell?_alloc_at _ _ _ _ rfl]; rfl⟩) v)
              go_wp2_with (first | (go_at_call 15; refine (Hid.out HN).dec.mono ?_; rintro e w0 ⟨rfl, hw0⟩; subst w0) | (go_at_call 20; refine (Hid.out HN).best.mono ?_; rintro e w0 ⟨rfl, hw0⟩; subst w0) | (go_at_call 11; refine (Hid.out HN).pop.mono ?_; rintro e w0 ⟨rfl, hw0⟩; subst w0) | (go_at_call 21; refine (Hid.out HN).push.mono ?_; rintro e w0 ⟨rfl, hw0⟩; subst w0) | (go_at_call 22; refine (Hid.out HN).bump.mono ?_; rintro e w0 ⟨rfl, hw0⟩; subst w0) | (go_at_call 19; refine (Hid.out HN).has.mono ?_; rintro e w0 ⟨rfl, hw0⟩; subst w0) | (go_at_call 14; refine (Hid.out HN).score.mono ?_; rintro e w0 ⟨rfl, hw0⟩; subst w0) | (go_at_call 17; refine (Hid.out HN).step.mono ?_; rintro e w0 ⟨rfl, hw0⟩; subst w0) | (go_at_call 13; refine (Hid.out HN).len.mono ?_; rintro e w0 ⟨rfl, hw0⟩; subst w0))
              go_roundw
              case rel => exact ⟨2, by omega, by go_num, HB.out.alloc HB.out.size _⟩
              case measure => simp [intOf]
            · have hk0 : k = 0 := by omega
              subst hk0
              have HN := hide (nobs (W := wr) (z := .pointer none) (.inl rfl) v)
              go_wp2_with (first | (go_at_call 15; refine (Hid.out HN).dec.mono ?_; rintro e w0 ⟨rfl, hw0⟩; subst w0) | (go_at_call 20; refine (Hid.out HN).best.mono ?_; rintro e w0 ⟨rfl, hw0⟩; subst w0) | (go_at_call 11; refine (Hid.out HN).pop.mono ?_; rintro e w0 ⟨rfl, hw0⟩; subst w0) | (go_at_call 21; refine (Hid.out HN).push.mono ?_; rintro e w0 ⟨rfl, hw0⟩; subst w0) | (go_at_call 22; refine (Hid.out HN).bump.mono ?_; rintro e w0 ⟨rfl, hw0⟩; subst w0) | (go_at_call 19; refine (Hid.out HN).has.mono ?_; rintro e w0 ⟨rfl, hw0⟩; subst w0) | (go_at_call 14; refine (Hid.out HN).score.mono ?_; rintro e w0 ⟨rfl, hw0⟩; subst w0) | (go_at_call 17; refine (Hid.out HN).step.mono ?_; rintro e w0 ⟨rfl, hw0⟩; subst w0) | (go_at_call 13; refine (Hid.out HN).len.mono ?_; rintro e w0 ⟨rfl, hw0⟩; subst w0))
              go_roundw
              case rel => exact ⟨1, by omega, by go_num, HB⟩
              case measure => simp [intOf]
          · go_wp2_with (first | (go_at_call 9; refine (unhide G2 _).mono ?_; rintro e w3 ⟨rfl, hb3⟩))
            go_ret
            exact ⟨rfl, HB.out.trans (hb3.mono HB.out.size)⟩
      · rw [show varB m v = false from by simp [varB]; omega] at GH
        go_upto_region 9 with (first | (go_at_call 13; refine (unhide GL).mono ?_; rintro e w0 ⟨rfl, hw0⟩; subst w0) | (go_at_call 17; refine (unhide GT).mono ?_; rintro e w0 ⟨rfl, hw0⟩; subst w0) | (go_at_call 19; refine (unhide GH).mono ?_; rintro e w0 ⟨rfl, hw0⟩; subst w0))
        refine forget (P := fun W => Code.wp Try.prog _ _ _ W) (fun W => Hid (Below w.heap.size w W)) HB0 ?_
        intro W1 HB1
        clear GL GT GH HB0
        go_wp2
        go_loopw [7] (fun x W => ∃ k : Nat, k ≤ 2 ∧ x = .int .i64 (k : Int) ∧ Hid (Below w.heap.size w W)) (fun x _ => 2 - (intOf x).toNat)
        case atStart => exact ⟨0, by omega, rfl, HB1⟩
        case round =>
          obtain ⟨k, hk, rfl, HB⟩ := hrel
          clear HB1
          by_cases hk2 : k < 2
          · by_cases hk1 : k = 1
            · subst hk1
              have HN := hide (nobs (W := wr.alloc (.cells #[.pointer none, .slice none 0 0, .slice none 0 0, .slice none 0 0, .int .i64 0] 46)) (z := .pointer (some ⟨wr.heap.size, 0, none⟩)) (.inr ⟨_, rfl, by rw [World.cell?_alloc_at _ _ _ _ rfl]; rfl⟩) v)
              go_wp2_with (first | (go_at_call 15; refine (Hid.out HN).dec.mono ?_; rintro e w0 ⟨rfl, hw0⟩; subst w0) | (go_at_call 20; refine (Hid.out HN).best.mono ?_; rintro e w0 ⟨rfl, hw0⟩; subst w0) | (go_at_call 11; refine (Hid.out HN).pop.mono ?_; rintro e w0 ⟨rfl, hw0⟩; subst w0) | (go_at_call 21; refine (Hid.out HN).push.mono ?_; rintro e w0 ⟨rfl, hw0⟩; subst w0) | (go_at_call 22; refine (Hid.out HN).bump.mono ?_; rintro e w0 ⟨rfl, hw0⟩; subst w0) | (go_at_call 19; refine (Hid.out HN).has.mono ?_; rintro e w0 ⟨rfl, hw0⟩; subst w0) | (go_at_call 14; refine (Hid.out HN).score.mono ?_; rintro e w0 ⟨rfl, hw0⟩; subst w0) | (go_at_call 17; refine (Hid.out HN).step.mono ?_; rintro e w0 ⟨rfl, hw0⟩; subst w0) | (go_at_call 13; refine (Hid.out HN).len.mono ?_; rintro e w0 ⟨rfl, hw0⟩; subst w0))
              go_roundw
              case rel => exact ⟨2, by omega, by go_num, HB.out.alloc HB.out.size _⟩
              case measure => simp [intOf]
            · have hk0 : k = 0 := by omega
              subst hk0
              have HN := hide (nobs (W := wr) (z := .pointer none) (.inl rfl) v)
              go_wp2_with (first | (go_at_call 15; refine (Hid.out HN).dec.mono ?_; rintro e w0 ⟨rfl, hw0⟩; subst w0) | (go_at_call 20; refine (Hid.out HN).best.mono ?_; rintro e w0 ⟨rfl, hw0⟩; subst w0) | (go_at_call 11; refine (Hid.out HN).pop.mono ?_; rintro e w0 ⟨rfl, hw0⟩; subst w0) | (go_at_call 21; refine (Hid.out HN).push.mono ?_; rintro e w0 ⟨rfl, hw0⟩; subst w0) | (go_at_call 22; refine (Hid.out HN).bump.mono ?_; rintro e w0 ⟨rfl, hw0⟩; subst w0) | (go_at_call 19; refine (Hid.out HN).has.mono ?_; rintro e w0 ⟨rfl, hw0⟩; subst w0) | (go_at_call 14; refine (Hid.out HN).score.mono ?_; rintro e w0 ⟨rfl, hw0⟩; subst w0) | (go_at_call 17; refine (Hid.out HN).step.mono ?_; rintro e w0 ⟨rfl, hw0⟩; subst w0) | (go_at_call 13; refine (Hid.out HN).len.mono ?_; rintro e w0 ⟨rfl, hw0⟩; subst w0))
              go_roundw
              case rel => exact ⟨1, by omega, by go_num, HB⟩
              case measure => simp [intOf]
          · go_wp2_with (first | (go_at_call 9; refine (unhide G2 _).mono ?_; rintro e w3 ⟨rfl, hb3⟩))
            go_ret
            exact ⟨rfl, HB.out.trans (hb3.mono HB.out.size)⟩
      · rw [show varB m v = true from by simp [varB]; omega] at GH
        go_upto_region 9 with (first | (go_at_call 13; refine (unhide GL).mono ?_; rintro e w0 ⟨rfl, hw0⟩; subst w0) | (go_at_call 17; refine (unhide GT).mono ?_; rintro e w0 ⟨rfl, hw0⟩; subst w0) | (go_at_call 19; refine (unhide GH).mono ?_; rintro e w0 ⟨rfl, hw0⟩; subst w0))
        refine forget (P := fun W => Code.wp Try.prog _ _ _ W) (fun W => Hid (Below w.heap.size w W)) HB0 ?_
        intro W1 HB1
        clear GL GT GH HB0
        go_wp2
        go_loopw [7] (fun x W => ∃ k : Nat, k ≤ 2 ∧ x = .int .i64 (k : Int) ∧ Hid (Below w.heap.size w W)) (fun x _ => 2 - (intOf x).toNat)
        case atStart => exact ⟨0, by omega, rfl, HB1⟩
        case round =>
          obtain ⟨k, hk, rfl, HB⟩ := hrel
          clear HB1
          by_cases hk2 : k < 2
          · by_cases hk1 : k = 1
            · subst hk1
              have HN := hide (nobs (W := wr.alloc (.cells #[.pointer none, .slice none 0 0, .slice none 0 0, .slice none 0 0, .int .i64 0] 46)) (z := .pointer (some ⟨wr.heap.size, 0, none⟩)) (.inr ⟨_, rfl, by rw [World.cell?_alloc_at _ _ _ _ rfl]; rfl⟩) v)
              go_wp2_with (first | (go_at_call 15; refine (Hid.out HN).dec.mono ?_; rintro e w0 ⟨rfl, hw0⟩; subst w0) | (go_at_call 20; refine (Hid.out HN).best.mono ?_; rintro e w0 ⟨rfl, hw0⟩; subst w0) | (go_at_call 11; refine (Hid.out HN).pop.mono ?_; rintro e w0 ⟨rfl, hw0⟩; subst w0) | (go_at_call 21; refine (Hid.out HN).push.mono ?_; rintro e w0 ⟨rfl, hw0⟩; subst w0) | (go_at_call 22; refine (Hid.out HN).bump.mono ?_; rintro e w0 ⟨rfl, hw0⟩; subst w0) | (go_at_call 19; refine (Hid.out HN).has.mono ?_; rintro e w0 ⟨rfl, hw0⟩; subst w0) | (go_at_call 14; refine (Hid.out HN).score.mono ?_; rintro e w0 ⟨rfl, hw0⟩; subst w0) | (go_at_call 17; refine (Hid.out HN).step.mono ?_; rintro e w0 ⟨rfl, hw0⟩; subst w0) | (go_at_call 13; refine (Hid.out HN).len.mono ?_; rintro e w0 ⟨rfl, hw0⟩; subst w0))
              go_roundw
              case rel => exact ⟨2, by omega, by go_num, HB.out.alloc HB.out.size _⟩
              case measure => simp [intOf]
            · have hk0 : k = 0 := by omega
              subst hk0
              have HN := hide (nobs (W := wr) (z := .pointer none) (.inl rfl) v)
              go_wp2_with (first | (go_at_call 15; refine (Hid.out HN).dec.mono ?_; rintro e w0 ⟨rfl, hw0⟩; subst w0) | (go_at_call 20; refine (Hid.out HN).best.mono ?_; rintro e w0 ⟨rfl, hw0⟩; subst w0) | (go_at_call 11; refine (Hid.out HN).pop.mono ?_; rintro e w0 ⟨rfl, hw0⟩; subst w0) | (go_at_call 21; refine (Hid.out HN).push.mono ?_; rintro e w0 ⟨rfl, hw0⟩; subst w0) | (go_at_call 22; refine (Hid.out HN).bump.mono ?_; rintro e w0 ⟨rfl, hw0⟩; subst w0) | (go_at_call 19; refine (Hid.out HN).has.mono ?_; rintro e w0 ⟨rfl, hw0⟩; subst w0) | (go_at_call 14; refine (Hid.out HN).score.mono ?_; rintro e w0 ⟨rfl, hw0⟩; subst w0) | (go_at_call 17; refine (Hid.out HN).step.mono ?_; rintro e w0 ⟨rfl, hw0⟩; subst w0) | (go_at_call 13; refine (Hid.out HN).len.mono ?_; rintro e w0 ⟨rfl, hw0⟩; subst w0))
              go_roundw
              case rel => exact ⟨1, by omega, by go_num, HB⟩
              case measure => simp [intOf]
          · go_wp2_with (first | (go_at_call 9; refine (unhide G2 _).mono ?_; rintro e w3 ⟨rfl, hb3⟩))
            go_ret
            exact ⟨rfl, HB.out.trans (hb3.mono HB.out.size)⟩
end Go.Proofs.Ytidhnmooloedmaa
