/- Contract: the law's own small case. -/
import Derived.Test.YtaepanmkofhgoaaWalkP
set_option linter.unusedVariables false
set_option linter.unusedSimpArgs false
namespace Go.Proofs.Ytaepanmkofhgoaa
open Go.RowKit Go.Maps

def ts0 : List As := [⟨1, 1, []⟩, ⟨2, 1, [2, -1]⟩, ⟨3, 1, [3, -1]⟩]
theorem may0 : mayLB ts0 [-2, -3] = true := by decide +kernel
theorem learn0 : learnL ts0 [-2, -3] = [-1] := by decide +kernel

/-- The world behind the small trail. -/
def w1A (w : World) : World := w.alloc (.cells #[.int .i64 2, .int .i64 (-1)] 3)
def w2A (w : World) : World := (w1A w).alloc (.cells #[.int .i64 3, .int .i64 (-1)] 3)
def w3A (w : World) : World := (w2A w).alloc (.cells #[.int .i64 1, .int .i64 1, .slice none 0 0, .int .i64 2, .int .i64 1, .slice (some ⟨w.heap.size, 0, none⟩) 2 2, .int .i64 3, .int .i64 1, .slice (some ⟨w.heap.size + 1, 0, none⟩) 2 2] 38)
def w4A (w : World) : World := (w3A w).alloc (.cells #[.int .i64 (-2), .int .i64 (-3)] 3)
theorem s1A (w : World) : (w1A w).heap.size = w.heap.size + 1 := by unfold w1A; simp
theorem s2A (w : World) : (w2A w).heap.size = w.heap.size + 1 + 1 := by unfold w2A; rw [size_alloc, s1A]
theorem s3A (w : World) : (w3A w).heap.size = w.heap.size + 1 + 1 + 1 := by unfold w3A; rw [size_alloc, s2A]
theorem s4A (w : World) : (w4A w).heap.size = w.heap.size + 1 + 1 + 1 + 1 := by unfold w4A; rw [size_alloc, s3A]
theorem b4A (w : World) : Below w.heap.size w (w4A w) :=
  ((((Below.refl _ _).alloc (Nat.le_refl _) _).alloc (by simp) _).alloc (by simp; omega) _).alloc (by simp; omega) _

theorem trl0 (w : World) : Trl (w3A w) (some ⟨w.heap.size + 1 + 1, 0, none⟩) ts0 := by
  have b12 : Below (w1A w).heap.size (w1A w) (w2A w) := below_alloc _ _
  have b23 : Below (w2A w).heap.size (w2A w) (w3A w) := below_alloc _ _
  have r1 : Row (w1A w) (some ⟨w.heap.size, 0, none⟩) [2, -1] := row_two w 2 (-1)
  have r2 : Row (w2A w) (some ⟨w.heap.size + 1, 0, none⟩) [3, -1] := by have := row_two (w1A w) 3 (-1); rw [s1A] at this; exact this
  have r1' := (r1.below b12).below b23
  have r2' := r2.below b23
  have hc : ∀ j u, (#[Value.int .i64 1, .int .i64 1, .slice none 0 0, .int .i64 2, .int .i64 1, .slice (some ⟨w.heap.size, 0, none⟩) 2 2, .int .i64 3, .int .i64 1, .slice (some ⟨w.heap.size + 1, 0, none⟩) 2 2] : Array Value)[j]? = some u → (w3A w).cell? ⟨w.heap.size + 1 + 1, j, none⟩ = some u := by
    intro j u hu
    have := box_cell (w2A w) _ 38 hu
    rw [s2A] at this
    exact this
  have hlt : w.heap.size + 1 + 1 < (w3A w).heap.size := by rw [s3A]; omega
  have hfit : ∀ l ∈ ([2, -1, 3] : List Int), -9223372036854775808 ≤ l ∧ l ≤ 9223372036854775807 := by decide
  intro i hi
  refine ⟨w.heap.size + 1 + 1, 0, rfl, ?_⟩
  match i, hi with
  | 0, _ => exact ⟨hlt, hc 0 _ rfl, hc 1 _ rfl, ⟨none, 0, hc 2 _ rfl, fun j hj => by simp [nth, ts0] at hj⟩, by simp [nth, ts0], ⟨fun l hl => by simp [nth, ts0] at hl, by simp [nth, ts0], by simp [nth, ts0]⟩⟩
  | 1, _ => exact ⟨hlt, hc 3 _ rfl, hc 4 _ rfl, ⟨_, 2, hc 5 _ rfl, r1'⟩, by unfold maxLen; simp [nth, ts0], ⟨fun l hl => by simp [nth, ts0] at hl; omega, by simp [nth, ts0], by simp [nth, ts0]⟩⟩
  | 2, _ => exact ⟨hlt, hc 6 _ rfl, hc 7 _ rfl, ⟨_, 2, hc 8 _ rfl, r2'⟩, by unfold maxLen; simp [nth, ts0], ⟨fun l hl => by simp [nth, ts0] at hl; omega, by simp [nth, ts0], by simp [nth, ts0]⟩⟩

set_option maxHeartbeats 4000000 in
set_option maxRecDepth 100000 in
theorem awake_any (w : World) : Calls Try.prog 9 #[] w fun e w' => e = .returned (.bool true) ∧ Below w.heap.size w w' := by
  have hT : Trl (w4A w) (some ⟨w.heap.size + 1 + 1, 0, none⟩) ts0 := (trl0 w).below (below_alloc _ _)
  have hR : Row (w4A w) (some ⟨w.heap.size + 1 + 1 + 1, 0, none⟩) [-2, -3] := by have := row_two (w3A w) (-2) (-3); rw [s3A] at this; exact this
  have C := learn_yes (w4A w) (some ⟨w.heap.size + 1 + 1, 0, none⟩) (some ⟨w.heap.size + 1 + 1 + 1, 0, none⟩) 3 2 ts0 [-2, -3] hT (by decide) hR (by decide) may0
  rw [learn0] at C
  have C2 : Calls Try.prog 12 #[.slice (some ⟨w.heap.size + 1 + 1, 0, none⟩) 3 3, .slice (some ⟨w.heap.size + 1 + 1 + 1, 0, none⟩) 2 2] (w4A w) fun e w' => ∃ (a : Option Addr) (cap : Nat), e = .returned (.tuple #[.slice a 1 cap, .int .i64 0]) ∧ Row w' a [-1] ∧ Below w.heap.size w w' := by
    refine C.mono ?_
    rintro e x ⟨v, he, hown, hnn, hbl⟩
    obtain ⟨a, cap, rfl, hrow, _⟩ := hown.row
    exact ⟨a, cap, he, hrow, (b4A w).trans (hbl.mono (by rw [s4A]; omega))⟩
  unfold w4A w3A w2A w1A at C2
  replace C2 := hide C2
  have CI := hide (fun (w' : World) a cap (h : Row w' a [-1]) => ints_any a (some ⟨w'.heap.size, 0, none⟩) cap 1 [-1] [-1] (w'.alloc (.cells #[.int .i64 (-1)] 3)) (h.below (below_alloc w' _)) (row_one w' (-1)) (by decide) (by decide))
  clear C hT hR
  go_enter Try.func9, Try.ntmps9
  go_wp2_with (first | (go_at_call 12; refine (unhide C2).mono ?_; rintro e w2 ⟨a, cap, rfl, hrow, hb⟩) | (go_at_call 14; refine (unhide CI _ _ _ hrow).mono ?_; rintro e w3 ⟨rfl, n, hw3⟩; subst w3))
  go_ret
  exact ⟨ret_bool (by decide), below_drewN ((hb.alloc hb.size _)) n⟩

end Go.Proofs.Ytaepanmkofhgoaa
