/- Contracts: whether a list has a number; whether an assignment has a reason; whether it may stand behind others. -/
import Derived.Test.YtaepanmkofhgoaaWalkG
set_option linter.unusedVariables false
set_option linter.unusedSimpArgs false
namespace Go.Proofs.Ytaepanmkofhgoaa
open Go.RowKit

theorem beq_flip {a b : Int} (h : (a == b) = false) : (b == a) = false := by
  have h' : a ≠ b := by simpa using h
  simpa using fun e => h' e.symm

set_option maxHeartbeats 400000 in
theorem index_any (a : Option Addr) (cap : Nat) (xs : List Int) (n : Int) (w : World) (hr : Row w a xs) (hl : xs.length ≤ maxLen) :
    Calls Try.prog 78 #[.slice a xs.length cap, .int .i64 n] w fun e w' => (∃ q : Int, e = .returned (.int .i64 q) ∧ decide (0 ≤ q) = hasB xs n) ∧ w' = w := by
  unfold maxLen at hl
  go_enter Try.func78, Try.ntmps78
  go_wp2
  go_loop [8] (fun i => ∃ k : Nat, k ≤ xs.length ∧ i = .int .i64 k ∧ (xs.take k).any (fun x => x == n) = false) (fun i => xs.length - (intOf i).toNat)
  case atStart => exact ⟨0, Nat.zero_le _, rfl, rfl⟩
  case round =>
    obtain ⟨k, hk, rfl, hno⟩ := hrel
    have HN : Hid ((xs.take k).any (fun x => x == n) = false) := hno
    clear hno
    by_cases hlt : k < xs.length
    · obtain ⟨b, off, rfl, hb, hc⟩ := hr k hlt
      clear hr
      by_cases he : (n == xs[k]) = true
      · go_wp2
        go_ret
        refine ⟨⟨k, rfl, ?_⟩, rfl⟩
        rw [show hasB xs n = true from any_true_at _ xs k hlt (by simpa using (by simpa using he : n = xs[k]).symm)]
        simp
      · have he' : (n == xs[k]) = false := by simpa using he
        go_wp2
        go_round
        case rel => exact ⟨k + 1, by omega, by go_num, any_take_snoc _ xs k hlt HN.out (beq_flip he')⟩
        case measure => simp [intOf]; omega
    · have hz : k = xs.length := by omega
      clear hr
      go_wp2
      go_ret
      refine ⟨⟨-1, rfl, ?_⟩, rfl⟩
      have h := HN.out
      rw [hz, List.take_length] at h
      rw [show hasB xs n = false from h]
      rfl

set_option maxHeartbeats 400000 in
theorem contains_any (a : Option Addr) (cap : Nat) (xs : List Int) (n : Int) (w : World) (hr : Row w a xs) (hl : xs.length ≤ maxLen) :
    Calls Try.prog 68 #[.slice a xs.length cap, .int .i64 n] w fun e w' => e = .returned (.bool (hasB xs n)) ∧ w' = w := by
  have C := hide (index_any a cap xs n w hr hl)
  clear hr
  generalize hasB xs n = R at *
  go_enter Try.func68, Try.ntmps68
  go_wp2_with (go_at_call 78; refine (unhide C).mono ?_; rintro e w0 ⟨⟨q, rfl, HQ⟩, hw0⟩; replace HQ := hide HQ; subst w0)
  go_ret
  exact ⟨ret_bool HQ.out, rfl⟩

/-- An assignment as a value. -/
def asV (x : As) (ra : Option Addr) (rc : Nat) : Value := .agg #[.int .i64 x.lit, .int .i64 x.lev, .slice ra x.rsn.length rc]

set_option maxHeartbeats 400000 in
theorem isDecided_any (w : World) (lt lv : Int) (ra : Option Addr) (n rc : Nat) :
    Calls Try.prog 58 #[.agg #[.int .i64 lt, .int .i64 lv, .slice ra n rc]] w fun e w' => e = .returned (.bool (decide (n = 0))) ∧ Below w.heap.size w w' := by
  go_enter Try.func58, Try.ntmps58
  go_wp2
  go_ret
  exact ⟨ret_bool (by rw [Bool.eq_iff_iff]; simp), below_alloc w _⟩

theorem all_or {xs : List Int} {p : Int → Bool} {k : Nat} (h : k < xs.length) (hp : p xs[k] = false) : xs.all p = false := all_false_at p xs k h hp

set_option maxHeartbeats 2000000 in
theorem isReason_any (w : World) (pb : Nat) (ts : List As) (k : Nat) (x : PP) (y : As) (ra : Option Addr) (rc : Nat) (h : Pth w pb ts k x) (hr : Row w ra y.rsn) (hl : y.rsn.length ≤ maxLen) (hf : Fit y.rsn) :
    Calls Try.prog 61 #[.pointer (some ⟨pb, 0, none⟩), .agg #[.int .i64 y.lit, .int .i64 y.lev, .slice ra y.rsn.length rc]] w fun e w' => e = .returned (.bool (rsnB (ts.take k) y)) ∧ Below w.heap.size w w' := by
  obtain ⟨lt, lv, xs⟩ := y
  dsimp only at *
  have CF := hide (fun w' (hb : Below w.heap.size w w') l hl => isFalse_any w' pb ts k x l (h.below hb) hl)
  have CC := hide (fun w' (hb : Below w.heap.size w w') => contains_any ra rc xs lt w' (hr.below hb) hl)
  unfold maxLen at hl
  clear h
  by_cases h256 : (256 : Int) < xs.length
  · have HR : Hid (rsnB (ts.take k) ⟨lt, lv, xs⟩ = false) := by
      show _ = _
      unfold rsnB
      rw [decide_eq_false (by simp; omega)]; rfl
    clear hr
    generalize rsnB (ts.take k) ⟨lt, lv, xs⟩ = R at *
    go_enter Try.func61, Try.ntmps61
    go_wp2
    go_ret
    exact ⟨ret_bool HR.out.symm, below_alloc w _⟩
  have e256 : decide (xs.length ≤ 256) = true := by simp; omega
  by_cases hh : hasB xs lt = true
  · have HR : Hid (rsnB (ts.take k) ⟨lt, lv, xs⟩ = xs.all (fun l => l == lt || falB (ts.take k) l)) := by
      show _ = _
      unfold rsnB
      rw [e256]
      dsimp only
      rw [hh]; rfl
    rw [hh] at CC
    generalize rsnB (ts.take k) ⟨lt, lv, xs⟩ = R at *
    clear e256
    go_enter Try.func61, Try.ntmps61
    go_wp2_with (go_at_call 68; refine (unhide CC _ (below_alloc w _)).mono ?_; rintro e w0 ⟨rfl, hw0⟩; subst w0)
    clear CC
    go_loopw [22] (fun i wr => ∃ q n : Nat, q ≤ xs.length ∧ i = .int .i64 q ∧ (xs.take q).all (fun l => l == lt || falB (ts.take k) l) = true ∧ wr = (w.alloc (.cells #[.int .i64 lt, .int .i64 lv, .slice ra xs.length rc] 38)).drewN n) (fun i _ => xs.length - (intOf i).toNat)
    case atStart => exact ⟨0, 0, Nat.zero_le _, rfl, rfl, rfl⟩
    case round =>
      obtain ⟨q, n, hq, rfl, hno, rfl⟩ := hrel
      have HN := hide hno
      clear hno
      by_cases hlt : q < xs.length
      · obtain ⟨b, off, rfl, hb, hc⟩ := hr q hlt
        have hbn : b ≠ w.heap.size := by omega
        clear hr
        by_cases he : (xs[q] != lt) = true
        · have he2 : (xs[q] == lt) = false := by simpa using he
          have C := (unhide CF) ((w.alloc (.cells #[.int .i64 lt, .int .i64 lv, .slice (some ⟨b, off, none⟩) xs.length rc] 38)).drewN n) (below_drewN (below_alloc w _) n) xs[q] (hf _ (List.getElem_mem hlt))
          clear CF
          by_cases hfl : falB (ts.take k) xs[q] = true
          · rw [hfl] at C
            replace C := hide C
            have HF : Hid ((xs[q] == lt || falB (ts.take k) xs[q]) = true) := by show _ = _; rw [hfl]; simp
            clear hfl he2
            go_wp2_with (go_at_call 56; refine (unhide C).mono ?_; rintro e w1 ⟨rfl, m, rfl⟩)
            go_roundw
            case rel => exact ⟨q + 1, n + m, by omega, by go_num, all_take_snoc _ xs q hlt HN.out HF.out, rfl⟩
            case measure => simp [intOf]; omega
          · have hfl' : falB (ts.take k) xs[q] = false := by simpa using hfl
            rw [hfl'] at C
            replace C := hide C
            have HF : Hid ((xs[q] == lt || falB (ts.take k) xs[q]) = false) := by show _ = _; rw [hfl', he2]; rfl
            clear hfl hfl' he2
            go_wp2_with (go_at_call 56; refine (unhide C).mono ?_; rintro e w1 ⟨rfl, m, rfl⟩)
            go_ret
            exact ⟨ret_bool (by rw [HR.out]; exact (all_false_at (fun l => l == lt || falB (ts.take k) l) xs q hlt HF.out).symm), below_drewN (below_alloc w _) _⟩
        · have he' : (xs[q] != lt) = false := by simpa using he
          have HF : Hid ((xs[q] == lt || falB (ts.take k) xs[q]) = true) := by
            have : xs[q] = lt := by simpa using he'
            show _ = _
            rw [this]; simp
          clear he CF
          go_wp2
          go_roundw
          case rel => exact ⟨q + 1, n, by omega, by go_num, all_take_snoc _ xs q hlt HN.out HF.out, rfl⟩
          case measure => simp [intOf]; omega
      · have hz : xs.length ≤ q := by omega
        clear hr CF
        go_wp2
        go_ret
        exact ⟨ret_bool (by rw [HR.out]; exact (all_of_take hz HN.out).symm), below_drewN (below_alloc w _) _⟩
  · have hh' : hasB xs lt = false := by simpa using hh
    have HR : Hid (rsnB (ts.take k) ⟨lt, lv, xs⟩ = false) := by
      show _ = _
      unfold rsnB
      dsimp only
      rw [hh']; simp
    rw [hh'] at CC
    clear hr CF e256
    generalize rsnB (ts.take k) ⟨lt, lv, xs⟩ = R at *
    go_enter Try.func61, Try.ntmps61
    go_wp2_with (go_at_call 68; refine (unhide CC _ (below_alloc w _)).mono ?_; rintro e w0 ⟨rfl, hw0⟩; subst w0)
    go_ret
    exact ⟨ret_bool HR.out.symm, below_alloc w _⟩

end Go.Proofs.Ytaepanmkofhgoaa
