/- Contracts of small functions of layer 1 and of the document: carried from stage 1. -/
import Derived.Test.YtlmbgaconjcaiaaGreatWalkL
set_option linter.unusedVariables false
set_option linter.unusedSimpArgs false
namespace Go.Proofs.YtlmbgaconjcaiaaGreat
open Go.RowKit

set_option maxHeartbeats 400000 in
theorem isLiteral_any (l t : Int) (w : World) (h0 : 0 ≤ t) (h1 : t ≤ 1048576) :
    Calls Tryz.prog 74 #[.int .i64 l, .int .i64 t] w fun e w' => e = .returned (.bool (litB l t)) ∧ w' = w := by
  go_enter Tryz.func74, Tryz.ntmps74
  go_wp2
  all_goals
    go_ret
    exact ⟨ret_bool (by simp [litB, *]; try omega), rfl⟩

set_option maxHeartbeats 400000 in
theorem has_any (a : Option Addr) (cap : Nat) (xs : List Int) (n : Int) (w : World) (hr : Row w a xs) (hl : xs.length ≤ maxLen) :
    Calls Tryz.prog 31 #[.slice a xs.length cap, .int .i64 n] w fun e w' => e = .returned (.bool (hasB xs n)) ∧ w' = w := by
  unfold maxLen at hl
  go_enter Tryz.func31, Tryz.ntmps31
  go_wp2
  go_loop [5] (fun i => ∃ k : Nat, k ≤ xs.length ∧ i = .int .i64 k ∧ (xs.take k).any (fun x => x == n) = false) (fun i => xs.length - (intOf i).toNat)
  case atStart => exact ⟨0, Nat.zero_le _, rfl, rfl⟩
  case round =>
    obtain ⟨k, hk, rfl, hno⟩ := hrel
    have HN : Hid ((xs.take k).any (fun x => x == n) = false) := hno
    clear hno
    by_cases hlt : k < xs.length
    · obtain ⟨b, off, rfl, hb, hc⟩ := hr k hlt
      clear hr
      by_cases he : (xs[k] == n) = true
      · go_wp2
        go_ret
        exact ⟨ret_bool (any_true_at _ xs k hlt he).symm, rfl⟩
      · have he' : (xs[k] == n) = false := by simpa using he
        go_wp2
        go_round
        case rel => exact ⟨k + 1, by omega, by go_num, any_take_snoc _ xs k hlt HN.out he'⟩
        case measure => simp [intOf]; omega
    · have hz : k = xs.length := by omega
      clear hr
      go_wp2
      go_ret
      exact ⟨ret_bool (by have h := HN.out; rw [hz, List.take_length] at h; exact h.symm), rfl⟩

set_option maxHeartbeats 400000 in
theorem isClause_any (a : Option Addr) (cap : Nat) (xs : List Int) (t : Int) (w : World) (hr : Row w a xs) (hl : xs.length ≤ maxLen) (h0 : 0 ≤ t) (h1 : t ≤ 1048576) :
    Calls Tryz.prog 56 #[.slice a xs.length cap, .int .i64 t] w fun e w' => e = .returned (.bool (mayB xs t)) ∧ w' = w := by
  unfold maxLen at hl
  by_cases hw : 4096 < (xs.length : Int)
  · go_enter Tryz.func56, Tryz.ntmps56
    go_wp2
    go_ret
    exact ⟨ret_bool (mayB_long (by omega)).symm, rfl⟩
  go_enter Tryz.func56, Tryz.ntmps56
  go_wp2
  go_loop [12] (fun i => ∃ k : Nat, k ≤ xs.length ∧ i = .int .i64 k ∧ (xs.take k).all (fun x => litB x t) = true) (fun i => xs.length - (intOf i).toNat)
  case atStart => exact ⟨0, Nat.zero_le _, rfl, rfl⟩
  case round =>
    obtain ⟨k, hk, rfl, hno⟩ := hrel
    have HN : Hid ((xs.take k).all (fun x => litB x t) = true) := hno
    clear hno
    by_cases hlt : k < xs.length
    · obtain ⟨b, off, rfl, hb, hc⟩ := hr k hlt
      clear hr
      by_cases he : litB xs[k] t = true
      · go_wp2_with (go_at_call 74; refine (isLiteral_any _ _ _ h0 h1).mono ?_; rintro e w' ⟨rfl, rfl⟩)
        go_round
        case rel => exact ⟨k + 1, by omega, by go_num, all_take_snoc _ xs k hlt HN.out he⟩
        case measure => simp [intOf]; omega
      · have he' : litB xs[k] t = false := by simpa using he
        go_wp2_with (go_at_call 74; refine (isLiteral_any _ _ _ h0 h1).mono ?_; rintro e w' ⟨rfl, rfl⟩)
        go_ret
        exact ⟨ret_bool (mayB_no k hlt he').symm, rfl⟩
    · have hz : xs.length ≤ k := by omega
      clear hr
      go_wp2
      go_ret
      exact ⟨ret_bool (mayB_of (by omega) (all_of_take hz HN.out)).symm, rfl⟩

set_option maxHeartbeats 800000 in
theorem refWithout_any (a : Option Addr) (cap : Nat) (xs : List Int) (n : Int) (w : World) (hr : Row w a xs) (hl : xs.length ≤ 5000) :
    Calls Tryz.prog 32 #[.slice a xs.length cap, .int .i64 n] w fun e w' => ∃ v, e = .returned v ∧ Own w.heap.size w' v (wo xs n) ∧ v ≠ .slice none 0 0 ∧ Below w.heap.size w w' := by
  obtain ⟨i0, hi, hz0, hz1, hz2⟩ := info_parts Tryz.info3
  go_enter Tryz.func32, Tryz.ntmps32
  go_wp2
  go_loopw [5, 6] (fun v i wr => ∃ k : Nat, k ≤ xs.length ∧ i = .int .i64 k ∧ Own w.heap.size wr v (wo (xs.take k) n) ∧ v ≠ .slice none 0 0 ∧ Below w.heap.size w wr) (fun _ i _ => xs.length - (intOf i).toNat)
  case atStart => exact ⟨0, Nat.zero_le _, rfl, World.ownsRow_lit (e := 3) (size := 1) w #[] 0 (Nat.le_refl _) (Nat.zero_le _) rfl, (by simp), (Below.refl _ _).alloc (Nat.le_refl _) _⟩
  case round =>
    obtain ⟨k, hk, rfl, hown, hnn, hbel⟩ := hrel
    by_cases hlt : k < xs.length
    · obtain ⟨b, off, rfl, hb, hc⟩ := hr k hlt
      clear hr
      have hc' := (hbel.cell (p := ⟨b, off + k, none⟩) hb).trans hc
      have hwl := wo_len_take xs n k
      by_cases he : (xs[k] != n) = true
      · have HE := hide (wo_take_hit hlt he)
        clear hc hb
        go_wp2_with (at_builtin; refine wpList_append_own _ rfl _ _ 25 rfl w.heap.size 3 i0 (.int .i64 0) 1 8 Tryz.underlying25 hi hz0 hz1 hz2 rfl (by decide) _ _ _ rfl (hown.alloc _) ⟨wr.heap.size, 0, none⟩ 1 1 [.int .i64 xs[k]] rfl rfl (cell_one_new _ _ _) (fun x hx => by simp at hx; subst hx; rfl) (by unfold maxLen; omega) (by omega) (by have := hbel.size; simp; omega) ?_; intro v' w2 hown2 hgrow2 hnil)
        have hnn2 : v' ≠ .slice none 0 0 := fun h => absurd (hnil.1 h).2 (by decide)
        have hown3 := own_snoc hown2 HE.out
        have hbel3 := ((hbel.alloc hbel.size (.cells #[.int .i64 xs[k]] 3)).grown hgrow2 (by have := hbel.size; simp; omega) (fun g hg => (hown.lt g hg).1))
        clear hown2 hgrow2 hnil
        go_wp2
        go_roundw
        case rel => exact ⟨k + 1, by omega, by go_num, hown3, hnn2, hbel3⟩
        case measure => simp [intOf]; omega
      · have he' : (xs[k] != n) = false := by simpa using he
        have HE := hide (wo_take_miss hlt he')
        clear hc hb he
        go_wp2
        go_roundw
        case rel => exact ⟨k + 1, by omega, by go_num, by rw [HE.out]; exact hown, hnn, hbel⟩
        case measure => simp [intOf]; omega
    · clear hr
      go_wp2
      go_ret
      exact ⟨_, rfl, by rw [List.take_of_length_le (by omega)] at hown; exact hown, hnn, hbel⟩

set_option maxHeartbeats 1000000 in
theorem checkCnf_any (a : Option Addr) (cap : Nat) (n : Int) (css : List (List Int)) (w : World) (hg : Grid w a css) (hl : css.length ≤ maxLen) :
    Calls Tryz.prog 38 #[.agg #[.int .i64 n, .slice a css.length cap]] w fun e w' => e = .returned (.int .i64 (errI (cnfB n css))) ∧ Below w.heap.size w w' := by
  have hbW := below_alloc w (.cells #[.int .i64 n, .slice a css.length cap] 24)
  have hg' := hg.below hbW
  clear hg
  have HB := hide hbW
  clear hbW
  unfold maxLen at hl
  by_cases h : 0 ≤ n ∧ n ≤ 1048576 ∧ css.length ≤ 262144
  case neg =>
    have HF := hide (cnfB_size h)
    clear hg'
    by_cases h1 : n < 0
    · clear h
      go_enter Tryz.func38, Tryz.ntmps38
      go_wp2
      go_ret
      exact ⟨ret_int (by rw [HF.out]; rfl), HB.out⟩
    by_cases h2 : 1048576 < n
    · clear h
      go_enter Tryz.func38, Tryz.ntmps38
      go_wp2
      go_ret
      exact ⟨ret_int (by rw [HF.out]; rfl), HB.out⟩
    · have h3 : 262144 < (css.length : Int) := by omega
      clear h
      go_enter Tryz.func38, Tryz.ntmps38
      go_wp2
      go_ret
      exact ⟨ret_int (by rw [HF.out]; rfl), HB.out⟩
  have HS := hide h
  obtain ⟨h1, h2, h3⟩ := h
  have h4 : (css.length : Int) ≤ 262144 := by omega
  go_enter Tryz.func38, Tryz.ntmps38
  go_wp2
  go_loop [22] (fun i => ∃ k : Nat, k ≤ css.length ∧ i = .int .i64 k ∧ (css.take k).all (fun c => mayB c n) = true) (fun i => css.length - (intOf i).toNat)
  case atStart => exact ⟨0, Nat.zero_le _, rfl, rfl⟩
  case round =>
    obtain ⟨k, hk, rfl, hno⟩ := hrel
    have HN := hide hno
    clear hno
    by_cases hlt : k < css.length
    · obtain ⟨b, off, ai, ci, rfl, hb, hc, hr, hm⟩ := hg' k hlt
      have C1 := isClause_any ai ci css[k] n _ hr hm h1 h2
      clear hg' hr
      unfold maxLen at hm
      by_cases h5 : mayB css[k] n = true
      · have HF := hide (allL_take_snoc (fun c => mayB c n) css k hlt HN.out h5)
        rw [h5] at C1
        replace C1 := hide C1
        clear h5
        go_wp2_with (go_at_call 56; refine (unhide C1).mono ?_; rintro e w' ⟨rfl, rfl⟩)
        go_round
        case rel => exact ⟨k + 1, by omega, by go_num, HF.out⟩
        case measure => simp [intOf]; omega
      · have h5' : mayB css[k] n = false := by simpa using h5
        have HF := hide (cnfB_at hlt h5')
        rw [h5'] at C1
        replace C1 := hide C1
        clear h5 h5'
        go_wp2_with (go_at_call 56; refine (unhide C1).mono ?_; rintro e w' ⟨rfl, rfl⟩)
        go_ret
        exact ⟨ret_int (by rw [HF.out]; rfl), HB.out⟩
    · clear hg'
      have HF := hide (cnfB_yes HS.out (allL_of_take (p := fun c => mayB c n) (xs := css) (k := k) (by omega) HN.out))
      go_wp2
      go_ret
      exact ⟨ret_int (by rw [HF.out]; rfl), HB.out⟩

def holdsB (m : List Int) (css : List (List Int)) : Bool := css.all (fun c => clauseI m c == 1)

end Go.Proofs.YtlmbgaconjcaiaaGreat
