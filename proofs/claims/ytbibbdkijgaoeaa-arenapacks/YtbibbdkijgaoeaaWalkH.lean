/- Contracts: two literals of a clause are swapped. -/
import Derived.Test.YtbibbdkijgaoeaaWalkG
set_option linter.unusedVariables false
set_option linter.unusedSimpArgs false
namespace Go.Proofs.Ytbibbdkijgaoeaa
open Go.RowKit Go.Maps

set_option maxHeartbeats 800000 in
theorem swap_no (base : Nat) (w : World) (B M : Nat) (rv : Value) (L : List Itm) (p i j : Int) (hA : Arn base w B M rv L) (hp : (Lit.int .i64 p).wf = true) (hno : p ∉ plF 0 L) :
    Calls Try.prog 22 #[.pointer (some ⟨B, 0, none⟩), .int .i64 p, .int .i64 i, .int .i64 j] w fun e w' => e = .returned (.int .i64 4) ∧ Below w.heap.size w w' := by
  have G := hide (has_any base w B M rv L p hA hp)
  rw [decide_eq_false hno] at G
  clear hA
  go_enter Try.func22, Try.ntmps22
  go_wp2_with (go_at_call 29; refine (unhide G).mono ?_; rintro e w0 ⟨rfl, hw0⟩; subst w0)
  go_ret
  exact ⟨rfl, (Below.refl _ _).alloc (Nat.le_refl _) _⟩

set_option maxHeartbeats 1600000 in
theorem swap_arg (base : Nat) (w : World) (B M : Nat) (rv : Value) (A R : List Itm) (it : Itm) (i j : Int) (hA : Arn base w B M rv (A ++ it :: R)) (hl : words (A ++ it :: R) ≤ 20000) (hit : it.2 = false) (hbad : i < 0 ∨ j < 0 ∨ it.1.length ≤ i ∨ it.1.length ≤ j) :
    Calls Try.prog 22 #[.pointer (some ⟨B, 0, none⟩), .int .i64 (words A), .int .i64 i, .int .i64 j] w fun e w' => e = .returned (.int .i64 1) ∧ Below w.heap.size w w' := by
  have hw : words (A ++ it :: R) = words A + (2 + it.1.length) + words R := by rw [words_append]; simp [words]; omega
  have G := hide (has_any base w B M rv _ (words A) hA (i64_wf (by omega) (by omega)))
  have hm := plF_mem A R it 0 hit
  rw [Nat.zero_add] at hm
  rw [decide_eq_true hm] at G
  have G2 := hide (literals_any base _ B M rv A R it (hA.alloc (.cells #[] 70)) hl)
  clear hA hm
  go_enter Try.func22, Try.ntmps22
  go_wp2_with (first
    | (go_at_call 29; refine (unhide G).mono ?_; rintro e w0 ⟨rfl, hw0⟩; subst w0)
    | (go_at_call 30; refine (unhide G2).mono ?_; rintro e w0 ⟨⟨a0, rfl, ha0⟩, hw0⟩; subst w0))
  all_goals first
    | (go_ret; exact ⟨rfl, (Below.refl _ _).alloc (Nat.le_refl _) _⟩)
    | (exfalso; omega)

def swapL (c : List Int) (i j : Nat) : List Int := (c.set i (c.getD j 0)).set j (c.getD i 0)
theorem swapL_len (c : List Int) (i j : Nat) : (swapL c i j).length = c.length := by simp [swapL]

theorem swap_end {base : Nat} {w w1 : World} {B M g : Nat} {rv : Value} {A R : List Itm} {c : List Int} {i j : Nat} (hA : Arn base w1 B M rv (A ++ (c, false) :: R)) (hK : Kp (Mine B M rv) w w1) (hg : rv.ownBlock = some g) (hgB : g ≠ B) (hgM : g ≠ M) (hi : i < c.length) (hj : j < c.length) {x y : Int} (hx : x = c.getD j 0) (hy : y = c.getD i 0) :
    Arn base ((w1.setCell ⟨g, words A + 2 + i, none⟩ (.int .i64 x)).setCell ⟨g, words A + 2 + j, none⟩ (.int .i64 y)) B M rv (A ++ (swapL c i j, false) :: R) ∧
      Kp (Mine B M rv) w ((w1.setCell ⟨g, words A + 2 + i, none⟩ (.int .i64 x)).setCell ⟨g, words A + 2 + j, none⟩ (.int .i64 y)) := by
  refine ⟨⟨hA.lB, hA.lM, ?_, ?_, ?_⟩, (hK.setCell (.inr (.inr hg)) _).setCell (.inr (.inr hg)) _⟩
  · rw [Below.heap_setCell _ _ _ _ (Ne.symm hgB), Below.heap_setCell _ _ _ _ (Ne.symm hgB), hA.head]
    simp [headOf, waste_swap A R c (swapL c i j) false (swapL_len c i j)]
  · have h := ownsRow_set (i := words A + 2 + j) (ownsRow_set (i := words A + 2 + i) hA.row hg (.int .i64 x)) hg (.int .i64 y)
    rw [← List.map_set, rowOf_set A R c false i x hi, ← List.map_set, rowOf_set A R _ false j y (by simpa using hj)] at h
    rw [words_set A R (c, false) (swapL c i j, false) (swapL_len c i j)]
    subst hx hy
    exact h
  · rw [plF_swap A R c (swapL c i j) false (swapL_len c i j)]
    exact (hA.pls.same (Below.heap_setCell _ _ _ _ (Ne.symm hgM))).same (Below.heap_setCell _ _ _ _ (Ne.symm hgM))

set_option maxHeartbeats 1600000 in
theorem swap_yes (base : Nat) (w : World) (B M : Nat) (rv : Value) (A R : List Itm) (c : List Int) (i j : Nat) (hA : Arn base w B M rv (A ++ (c, false) :: R)) (hl : words (A ++ (c, false) :: R) ≤ 20000) (hi : i < c.length) (hj : j < c.length) :
    Calls Try.prog 22 #[.pointer (some ⟨B, 0, none⟩), .int .i64 (words A), .int .i64 i, .int .i64 j] w fun e w' => e = .returned (.int .i64 0) ∧ Arn base w' B M rv (A ++ (swapL c i j, false) :: R) ∧ Kp (Mine B M rv) w w' := by
  have hw : words (A ++ (c, false) :: R) = words A + (2 + c.length) + words R := by rw [words_append]; simp [words]; omega
  have G := hide (has_any base w B M rv _ (words A) hA (i64_wf (by omega) (by omega)))
  have hm := plF_mem A R (c, false) 0 rfl
  rw [Nat.zero_add] at hm
  rw [decide_eq_true hm] at G
  clear hm
  have hA1 := hA.alloc (.cells #[] 70)
  have G2 := hide (literals_any base _ B M rv A R (c, false) hA1 hl)
  obtain ⟨g, cap, hrv, hgb, hc1, hc2, hfz, hgB, hgM⟩ := hA1.rowCell (by omega)
  have ri := hA1.cellAt hgb (rowOf_lit A R (c, false) i hi)
  have rj := hA1.cellAt hgb (rowOf_lit A R (c, false) j hj)
  have fi := hfz (words A + 2 + i)
  have fj := hfz (words A + 2 + j)
  have HA := hide hA1
  have HK : Hid (Kp (Mine B M rv) w (w.alloc (.cells #[] 70))) := Kp.of_below ((Below.refl _ _).alloc (Nat.le_refl _) _)
  have HG := hide hgb
  have gi : c[i] = c.getD i 0 := by simp [hi]
  have gj : c[j] = c.getD j 0 := by simp [hj]
  simp only at ri rj
  rw [gi] at ri
  rw [gj] at rj
  generalize hci : c.getD i 0 = x at *
  generalize hcj : c.getD j 0 = y at *
  have HCI := hide hci
  have HCJ := hide hcj
  have hi' : (i : Int) < c.length := by omega
  have hj' : (j : Int) < c.length := by omega
  obtain ⟨zz, hzz⟩ : ∃ z, ((w.alloc (.cells #[] 70)).setCell ⟨g, words A + 2 + i, none⟩ (.int .i64 y)).cell? ⟨g, words A + 2 + j, none⟩ = some z := by
    by_cases e : i = j
    · subst e; exact ⟨_, World.cell?_setCell_same _ _ _ rj⟩
    · exact ⟨_, (World.cell?_setCell_other _ _ _ _ (by simp [e])).trans rj⟩
  clear hA hA1 hfz hgb gi gj hci hcj hc1 hc2 hrv
  go_enter Try.func22, Try.ntmps22
  go_wp2_with (first
    | (go_at_call 29; refine (unhide G).mono ?_; rintro e w0 ⟨rfl, hw0⟩; subst w0)
    | (go_at_call 30; refine (unhide G2).mono ?_; rintro e w0 ⟨⟨a0, rfl, ha0⟩, hw0⟩; subst w0; obtain ⟨g', hg', rfl⟩ := ha0 (Nat.lt_of_le_of_lt (Nat.zero_le _) hi); obtain rfl : g' = g := Option.some.inj (hg'.symm.trans HG.out); clear hg' ha0))
  all_goals go_region
  all_goals
    go_wp2
    go_ret
    have hend := swap_end HA.out HK.out HG.out hgB hgM hi hj HCJ.out.symm HCI.out.symm
    exact ⟨rfl, hend.1.same (fun k _ => rfl), hend.2.drew⟩

end Go.Proofs.Ytbibbdkijgaoeaa
