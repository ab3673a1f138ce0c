/- Contracts: whether two lists are the same, the value of a literal and of a clause, which of two literals stands ahead. -/
import Derived.Test.YtaepanmkofhgoaaWalkA
import Derived.WalkSmall
set_option linter.unusedVariables false
set_option linter.unusedSimpArgs false
namespace Go.Proofs.Ytaepanmkofhgoaa
open Go.RowKit

def intsB (xs ys : List Int) : Bool := decide (xs = ys)

theorem Row.drewN {w : World} {a : Option Addr} {xs : List Int} (h : Row w a xs) (n : Nat) : Row (w.drewN n) a xs := h

set_option maxHeartbeats 400000 in
theorem ints_any (a b : Option Addr) (ca cb : Nat) (xs ys : List Int) (w : World) (hr : Row w a xs) (hs : Row w b ys) (hl : xs.length ≤ maxLen) (hm : ys.length ≤ maxLen) :
    Calls Try.prog 14 #[.slice a xs.length ca, .slice b ys.length cb] w fun e w' => e = .returned (.bool (intsB xs ys)) ∧ ∃ n, w' = w.drewN n := by
  unfold maxLen at hl hm
  by_cases hne : (xs.length : Int) = ys.length
  case neg =>
    have hb : ((xs.length : Int) != ys.length) = true := by rw [bne_iff_ne]; exact hne
    clear hr hs
    go_enter Try.func14, Try.ntmps14
    go_wp2
    go_ret
    exact ⟨ret_bool (by simp only [intsB]; symm; rw [decide_eq_false_iff_not]; intro h; apply hne; rw [h]), 0, rfl⟩
  have hb : ((xs.length : Int) != ys.length) = false := by simp [hne]
  have hyl : xs.length ≤ ys.length := by omega
  have HE : Hid (xs.length = ys.length) := by show xs.length = ys.length; omega
  clear hne
  go_enter Try.func14, Try.ntmps14
  go_wp2
  go_loopw [5] (fun i wr => ∃ k n : Nat, k ≤ xs.length ∧ i = .int .i64 k ∧ xs.take k = ys.take k ∧ wr = w.drewN n) (fun i _ => xs.length - (intOf i).toNat)
  case atStart => exact ⟨0, 0, Nat.zero_le _, rfl, rfl, rfl⟩
  case round =>
    obtain ⟨k, n, hk, rfl, hno, rfl⟩ := hrel
    have HN : Hid (xs.take k = ys.take k) := hno
    clear hno
    by_cases hlt : k < xs.length
    · obtain ⟨b1, off1, rfl, hb1, hc1⟩ := hr k hlt
      obtain ⟨b2, off2, rfl, hb2, hc2⟩ := hs k (by omega)
      clear hr hs hb
      by_cases he : xs[k] = ys[k]
      · have he' : (xs[k] != ys[k]) = false := by simp [he]
        have HX := hide he
        clear he
        go_wp2
        go_quiet (fail)
        go_wp2
        go_roundw
        case rel => exact ⟨k + 1, _, by omega, by go_num, take_eq_snoc hlt (by omega) HN.out HX.out, rfl⟩
        case measure => simp [intOf]; omega
      · have he' : (xs[k] != ys[k]) = true := by simp [he]
        go_wp2
        go_quiet (fail)
        go_wp2
        go_ret
        exact ⟨ret_bool (by simp only [intsB]; symm; rw [decide_eq_false_iff_not]; intro h; apply he; simp only [h]), _, World.drewN_drewN _ _ _⟩
    · have hz : xs.length ≤ k := by omega
      clear hr hs
      go_wp2
      go_ret
      refine ⟨ret_bool ?_, _, rfl⟩
      have h := HN.out
      rw [List.take_of_length_le hz, List.take_of_length_le (by have := HE.out; omega)] at h
      simp [intsB, h]

theorem varI_pos {l : Int} (h : l ≠ 0) : 1 ≤ varI l := by unfold varI; split <;> omega

/-- A slice's number at a place that is reckoned. -/
theorem Row.at {w : World} {a : Option Addr} {xs : List Int} (h : Row w a xs) (v : Int) (h1 : 1 ≤ v) (h2 : v ≤ xs.length) :
    ∃ b off, a = some ⟨b, off, none⟩ ∧ b < w.heap.size ∧ w.cell? ⟨b, off + (v.toNat - 1), none⟩ = some (.int .i64 (xs.getD (v.toNat - 1) 0)) := by
  obtain ⟨b, off, ha, hb, hc⟩ := h (v.toNat - 1) (by omega)
  refine ⟨b, off, ha, hb, ?_⟩
  rw [hc, List.getD_eq_getElem?_getD, List.getElem?_eq_getElem (by omega)]; rfl

set_option maxHeartbeats 400000 in
theorem refValue_any (a : Option Addr) (cap : Nat) (m : List Int) (l : Int) (w : World) (hr : Row w a m) (hl : m.length ≤ maxLen) :
    Calls Try.prog 25 #[.slice a m.length cap, .int .i64 l] w fun e w' => e = .returned (.int .i64 (valI m l)) ∧ w' = w := by
  unfold maxLen at hl
  by_cases h0 : litB l 1048576 = true
  case neg =>
    have h0' : litB l 1048576 = false := by simpa using h0
    clear h0
    have HV := hide (valI_none (m := m) h0')
    clear hr
    go_enter Try.func25, Try.ntmps25
    go_wp2_with (go_at_call 17; refine (lit_any _ _).mono ?_; rintro e w' ⟨rfl, rfl⟩)
    go_ret
    exact ⟨ret_int HV.out.symm, rfl⟩
  have hb := litB_true.1 h0
  obtain ⟨hb0, hb1, hb2⟩ := hb
  have hv1 := varI_pos hb0
  have hv2 := (varI_bd hb1 hb2).2
  by_cases h1 : varI l ≤ m.length
  case neg =>
    have HV := hide (valI_beyond (m := m) (l := l) (by omega))
    have h1' : (m.length : Int) < varI l := by omega
    clear hr h1 hb0
    go_enter Try.func25, Try.ntmps25
    go_wp2_with (first | (go_at_call 17; refine (lit_any _ _).mono ?_; rintro e w' ⟨rfl, rfl⟩) | (go_at_call 44; refine (var_any _ _ hb1 hb2).mono ?_; rintro e w' ⟨rfl, rfl⟩))
    go_ret
    exact ⟨ret_int HV.out.symm, rfl⟩
  have HV := hide (valI_at h0 h1)
  obtain ⟨b, off, rfl, hb, hc⟩ := hr.at (varI l) hv1 h1
  clear hr
  generalize hxx : m.getD ((varI l).toNat - 1) 0 = x at *
  clear hxx
  have HL := hide hb0
  clear hb0
  by_cases hx : x = 0
  · have hx0 : (x == 0) = true := by simp [hx]
    have HS : Hid (sgn x = 0) := by rw [hx]; rfl
    clear hx
    go_enter Try.func25, Try.ntmps25
    go_wp2_with (first | (go_at_call 17; refine (lit_any _ _).mono ?_; rintro e w' ⟨rfl, rfl⟩) | (go_at_call 44; refine (var_any _ _ hb1 hb2).mono ?_; rintro e w' ⟨rfl, rfl⟩))
    go_ret
    exact ⟨ret_int (by rw [HV.out, HS.out]; simp), rfl⟩
  · have hx0 : (x == 0) = false := by simpa using hx
    clear hx
    go_enter Try.func25, Try.ntmps25
    go_wp2_with (first | (go_at_call 17; refine (lit_any _ _).mono ?_; rintro e w' ⟨rfl, rfl⟩) | (go_at_call 44; refine (var_any _ _ hb1 hb2).mono ?_; rintro e w' ⟨rfl, rfl⟩))
    · go_ret
      exact ⟨ret_int (by rw [HV.out]; exact sgn_same ‹_› hx0 HL.out), rfl⟩
    · go_ret
      exact ⟨ret_int (by rw [HV.out]; exact sgn_other ‹_› hx0 HL.out), rfl⟩

set_option maxHeartbeats 400000 in
theorem compare_any (x y : Int) (w : World) :
    Calls Try.prog 53 #[.int .i64 x, .int .i64 y] w fun e w' => e = .returned (.int .i64 (cmpI x y)) ∧ w' = w := by
  go_enter Try.func53, Try.ntmps53
  go_wp2
  all_goals
    go_ret
    exact ⟨ret_int (by unfold cmpI; split <;> first | rfl | omega | (split <;> first | rfl | omega)), rfl⟩

end Go.Proofs.Ytaepanmkofhgoaa
