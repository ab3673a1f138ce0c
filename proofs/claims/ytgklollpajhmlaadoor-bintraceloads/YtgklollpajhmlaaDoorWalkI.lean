/- Contracts: whether a proof is not too great; how many clauses follow, and go; whether proofs are alike (the program's way). -/
import Derived.Test.YtgklollpajhmlaaDoorWalkH
set_option linter.unusedVariables false
set_option linter.unusedSimpArgs false
namespace Go.Proofs.YtgklollpajhmlaaDoor
open Go.RowKit Go.Maps

attribute [local go_sem ↓] Go.wp_at_zero Go.wp_at_succ

/-- How many literals there are. -/
def litsN (l : List Stp) : Nat := (l.map (fun s => s.2.length)).sum
theorem litsN_snoc {l : List Stp} {k : Nat} (h : k < l.length) : litsN (l.take (k + 1)) = litsN (l.take k) + l[k].2.length := by
  unfold litsN; rw [List.take_succ_eq_append_getElem h, List.map_append, List.sum_append]; simp

/-- How many clauses go. -/
def delsN (l : List Stp) : Nat := (l.filter (fun s => s.1)).length
theorem delsN_snoc {l : List Stp} {k : Nat} (h : k < l.length) : delsN (l.take (k + 1)) = delsN (l.take k) + (if l[k].1 = true then 1 else 0) := by
  unfold delsN; rw [List.take_succ_eq_append_getElem h, List.filter_append]
  cases e : l[k].1 <;> simp [List.filter_cons, e]
theorem delsN_le (l : List Stp) (k : Nat) : delsN (l.take k) ≤ k := Nat.le_trans (List.length_filter_le _ _) (List.length_take_le _ _)

/-- What is told of how great a proof is. -/
def LightP (l : List Stp) (e : Ending) : Prop := ∃ r : Bool, e = .returned (.bool r) ∧ (r = true → l.length ≤ 300 ∧ litsN l ≤ 6000)
theorem lightP_no (l : List Stp) : LightP l (.returned (.bool false)) := ⟨false, rfl, fun e => by cases e⟩
theorem lightP_of {l : List Stp} {N : Nat} (h1 : l.length ≤ 300) (h2 : litsN l = N) : LightP l (.returned (.bool (decide ((N : Int) ≤ 6000)))) := ⟨_, rfl, fun e => ⟨h1, by have := of_decide_eq_true e; omega⟩⟩

set_option maxHeartbeats 800000 in
theorem light_any (w : World) (a : Option Addr) (cap : Nat) (l : List Stp) (hA : Steps w a l) (hl : l.length ≤ maxLen) :
    Calls Tryd.prog 4 #[.slice a l.length cap] w fun e w' => LightP l e ∧ w' = w := by
  unfold maxLen at hl
  go_enter Tryd.func4, Tryd.ntmps4
  go_wp2
  go_loop [3, 4] (fun n i => ∃ k : Nat, k ≤ l.length ∧ k ≤ 301 ∧ i = .int .i64 k ∧ n = .int .i64 ((litsN (l.take k) : Nat) : Int) ∧ litsN (l.take k) ≤ 5000 * k) (fun _ i => l.length - (intOf i).toNat)
  case atStart => exact ⟨0, Nat.zero_le _, Nat.zero_le _, rfl, rfl, by simp [litsN]⟩
  case round =>
    obtain ⟨k, hk, hk40, rfl, rfl, hn⟩ := hrel
    by_cases hlt : k < l.length ∧ k ≤ 300
    · obtain ⟨hlt, h300⟩ := hlt
      obtain ⟨b, off, ai, ci, rfl, hb, c0, c1, -, hlen⟩ := hA k hlt
      unfold maxLen at hlen
      have HS := hide (litsN_snoc hlt)
      clear hA
      generalize litsN (l.take k) = N at *
      by_cases he : l[k].2.length ≤ 5000
      · have he' : ¬ (5000 : Int) < l[k].2.length := by omega
        have hlt' : (k : Int) < l.length := by omega
        have h300' : (k : Int) ≤ 300 := by omega
        generalize l[k].2.length = M at *
        go_wp2
        go_round
        case rel => exact ⟨k + 1, by omega, by omega, by go_num, by rw [HS.out]; go_num, by rw [HS.out]; omega⟩
        case measure => simp [intOf]; omega
      · have he' : (5000 : Int) < l[k].2.length := by omega
        have hlt' : (k : Int) < l.length := by omega
        have h300' : (k : Int) ≤ 300 := by omega
        go_wp2
        go_ret
        exact ⟨lightP_no l, rfl⟩
    · have HT : Hid (l.length ≤ 300 → litsN (l.take k) = litsN l) := fun e => by rw [List.take_of_length_le (by omega)]
      clear hA
      generalize litsN (l.take k) = N at *
      go_wp2
      all_goals
        go_ret
        refine ⟨?_, rfl⟩
        first
          | exact lightP_no l
          | exact lightP_of (by omega) (HT.out (by omega)).symm

end Go.Proofs.YtgklollpajhmlaaDoor
