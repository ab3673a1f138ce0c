/- Contracts: whether a proof is not too great; how many clauses follow, and go; whether proofs are alike (the program's way). -/
import Derived.Test.YtjjeoodgejnplaaWalkH
set_option linter.unusedVariables false
set_option linter.unusedSimpArgs false
namespace Go.Proofs.Ytjjeoodgejnplaa
open Go.RowKit Go.Maps

attribute [local go_sem ↓] Go.wp_at_zero Go.wp_at_succ

/-- How many literals there are. -/
def litsN (l : List Stp) : Nat := (l.map (fun s => s.2.length)).sum
theorem litsN_snoc {l : List Stp} {k : Nat} (h : k < l.length) : litsN (l.take (k + 1)) = litsN (l.take k) + l[k].2.length := by
  unfold litsN; rw [List.take_succ_eq_append_getElem h, List.map_append, List.sum_append]; simp

/-- How many clauses go. -/
def delsN (l : List Stp) : Nat := (l.filter (fun s => s.1)).length
theorem delsN_snoc {l : List Stp} {k : Nat} (h : k < l.length) : delsN (l.take (k + 1)) = delsN (l.take k) + (if l[k].1 = true then 1 else 0) := by
  unfold delsN; rw [List.take_succ_eq_append_getElem h, List.filter_append]
  cases e : l[k].1 <;> simp [List.filter_cons, e]
theorem delsN_le (l : List Stp) (k : Nat) : delsN (l.take k) ≤ k := Nat.le_trans (List.length_filter_le _ _) (List.length_take_le _ _)

/-- What is told of how great a proof is. -/
def LightP (l : List Stp) (e : Ending) : Prop := ∃ r : Bool, e = .returned (.bool r) ∧ (r = true → l.length ≤ 300 ∧ litsN l ≤ 6000)
theorem lightP_no (l : List Stp) : LightP l (.returned (.bool false)) := ⟨false, rfl, fun e => by cases e⟩
theorem lightP_of {l : List Stp} {N : Nat} (h1 : l.length ≤ 300) (h2 : litsN l = N) : LightP l (.returned (.bool (decide ((N : Int) ≤ 6000)))) := ⟨_, rfl, fun e => ⟨h1, by have := of_decide_eq_true e; omega⟩⟩

set_option maxHeartbeats 800000 in
theorem light_any (w : World) (a : Option Addr) (cap : Nat) (l : List Stp) (hA : Steps w a l) (hl : l.length ≤ maxLen) :
    Calls Try.prog 10 #[.slice a l.length cap] w fun e w' => LightP l e ∧ w' = w := by
  unfold maxLen at hl
  go_enter Try.func10, Try.ntmps10
  go_wp2
  go_loop [3, 4] (fun n i => ∃ k : Nat, k ≤ l.length ∧ k ≤ 301 ∧ i = .int .i64 k ∧ n = .int .i64 ((litsN (l.take k) : Nat) : Int) ∧ litsN (l.take k) ≤ 5000 * k) (fun _ i => l.length - (intOf i).toNat)
  case atStart => exact ⟨0, Nat.zero_le _, Nat.zero_le _, rfl, rfl, by simp [litsN]⟩
  case round =>
    obtain ⟨k, hk, hk40, rfl, rfl, hn⟩ := hrel
    by_cases hlt : k < l.length ∧ k ≤ 300
    · obtain ⟨hlt, h300⟩ := hlt
      obtain ⟨b, off, ai, ci, rfl, hb, c0, c1, -, hlen⟩ := hA k hlt
      unfold maxLen at hlen
      have HS := hide (litsN_snoc hlt)
      clear hA
      generalize litsN (l.take k) = N at *
      by_cases he : l[k].2.length ≤ 5000
      · have he' : ¬ (5000 : Int) < l[k].2.length := by omega
        have hlt' : (k : Int) < l.length := by omega
        have h300' : (k : Int) ≤ 300 := by omega
        generalize l[k].2.length = M at *
        go_wp2
        go_round
        case rel => exact ⟨k + 1, by omega, by omega, by go_num, by rw [HS.out]; go_num, by rw [HS.out]; omega⟩
        case measure => simp [intOf]; omega
      · have he' : (5000 : Int) < l[k].2.length := by omega
        have hlt' : (k : Int) < l.length := by omega
        have h300' : (k : Int) ≤ 300 := by omega
        go_wp2
        go_ret
        exact ⟨lightP_no l, rfl⟩
    · have HT : Hid (l.length ≤ 300 → litsN (l.take k) = litsN l) := fun e => by rw [List.take_of_length_le (by omega)]
      clear hA
      generalize litsN (l.take k) = N at *
      go_wp2
      all_goals
        go_ret
        refine ⟨?_, rfl⟩
        first
          | exact lightP_no l
          | exact lightP_of (by omega) (HT.out (by omega)).symm

set_option maxHeartbeats 800000 in
theorem count_any (w : World) (a : Option Addr) (cap : Nat) (l : List Stp) (hA : Steps w a l) (hl : l.length ≤ maxLen) :
    Calls Try.prog 11 #[.slice a l.length cap] w fun e w' => e = .returned (.tuple #[.int .i64 ((l.length : Int) - delsN l), .int .i64 (delsN l : Int)]) ∧ Below w.heap.size w w' := by
  unfold maxLen at hl
  go_enter Try.func11, Try.ntmps11
  go_wp2
  go_loopw [3, 8] (fun n i wr => ∃ k : Nat, k ≤ l.length ∧ i = .int .i64 k ∧ n = .int .i64 ((delsN (l.take k) : Nat) : Int) ∧ Below w.heap.size w wr) (fun _ i _ => l.length - (intOf i).toNat)
  case atStart => exact ⟨0, Nat.zero_le _, rfl, rfl, Below.refl _ _⟩
  case round =>
    obtain ⟨k, hk, rfl, rfl, hB⟩ := hrel
    have hd := delsN_le l k
    by_cases hlt : k < l.length
    · obtain ⟨b, off, ai, ci, rfl, hb, c0, c1, -, hlen⟩ := (hA.below hB) k hlt
      have HS := hide (delsN_snoc hlt)
      have HB := hide hB
      have hlt' : (k : Int) < l.length := by omega
      clear hA hB
      generalize delsN (l.take k) = D at *
      generalize l[k].2.length = M at *
      cases he : l[k].1
      all_goals
        rw [he] at c0 HS
        clear he
        go_wp2
        go_roundw
        case rel => exact ⟨k + 1, by omega, by go_num, by rw [HS.out]; go_num, HB.out.alloc HB.out.size _⟩
        case measure => simp [intOf]; omega
    · have hte : l.take k = l := List.take_of_length_le (by omega)
      rw [hte] at hd ⊢
      clear hA hte
      have hlt' : ¬ (k : Int) < l.length := by omega
      have HB := hide hB
      clear hB
      go_wp2
      go_ret2
      exact ⟨rfl, HB.out⟩

set_option maxHeartbeats 400000 in
theorem equal_any (a b : Option Addr) (ca cb : Nat) (xs ys : List Int) (w : World) (hr : Row w a xs) (hs : Row w b ys) (hl : xs.length ≤ maxLen) (hm : ys.length ≤ maxLen) :
    Calls Try.prog 24 #[.slice a xs.length ca, .slice b ys.length cb] w fun e w' => e = .returned (.bool (intsB xs ys)) ∧ ∃ n, w' = w.drewN n := by
  unfold maxLen at hl hm
  by_cases hne : (xs.length : Int) = ys.length
  case neg =>
    have hb : ((xs.length : Int) != ys.length) = true := by rw [bne_iff_ne]; exact hne
    clear hr hs
    go_enter Try.func24, Try.ntmps24
    go_wp2
    go_ret
    exact ⟨ret_bool (by simp only [intsB]; symm; rw [decide_eq_false_iff_not]; intro h; apply hne; rw [h]), 0, rfl⟩
  have hb : ((xs.length : Int) != ys.length) = false := by simp [hne]
  have hyl : xs.length ≤ ys.length := by omega
  have HE : Hid (xs.length = ys.length) := by show xs.length = ys.length; omega
  clear hne
  go_enter Try.func24, Try.ntmps24
  go_wp2
  go_loopw [13] (fun i wr => ∃ k n : Nat, k ≤ xs.length ∧ i = .int .i64 k ∧ xs.take k = ys.take k ∧ wr = w.drewN n) (fun i _ => xs.length - (intOf i).toNat)
  case atStart => exact ⟨0, 0, Nat.zero_le _, rfl, rfl, rfl⟩
  case round =>
    obtain ⟨k, n, hk, rfl, hno, rfl⟩ := hrel
    have HN : Hid (xs.take k = ys.take k) := hno
    clear hno
    by_cases hlt : k < xs.length
    · obtain ⟨b1, off1, rfl, hb1, hc1⟩ := hr k hlt
      obtain ⟨b2, off2, rfl, hb2, hc2⟩ := hs k (by omega)
      clear hr hs hb
      have hlt2 : k < ys.length := by omega
      by_cases he : xs[k] = ys[k]
      · have he' : (xs[k] != ys[k]) = false := by simp [he]
        have HX := hide he
        clear he
        go_wp2
        go_quiet (fail)
        go_wp2
        go_roundw
        case rel => exact ⟨k + 1, _, by omega, by go_num, take_eq_snoc hlt (by omega) HN.out HX.out, rfl⟩
        case measure => simp [intOf]; omega
      · have he' : (xs[k] != ys[k]) = true := by simp [he]
        go_wp2
        go_quiet (fail)
        go_wp2
        go_ret
        exact ⟨ret_bool (by simp only [intsB]; symm; rw [decide_eq_false_iff_not]; intro h; apply he; simp only [h]), _, World.drewN_drewN _ _ _⟩
    · have hz : xs.length ≤ k := by omega
      clear hr hs
      go_wp2
      go_ret
      refine ⟨ret_bool ?_, _, rfl⟩
      have h := HN.out
      rw [List.take_of_length_le hz, List.take_of_length_le (by have := HE.out; omega)] at h
      simp [intsB, h]

end Go.Proofs.Ytjjeoodgejnplaa
