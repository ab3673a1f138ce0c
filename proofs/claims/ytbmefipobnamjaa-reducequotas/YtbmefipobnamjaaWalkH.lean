/- Contract: the law's own small case. -/
import Derived.Test.YtbmefipobnamjaaWalkG
import Derived.Test.YtbmefipobnamjaaWalkQ
set_option linter.unusedVariables false
set_option linter.unusedSimpArgs false
namespace Go.Proofs.Ytbmefipobnamjaa
open Go.RowKit

def L0 : List Ln := [⟨3, 4, false⟩, ⟨4, 4, false⟩, ⟨5, 9, false⟩]
theorem may0 : mayA L0 = true := by decide +kernel
theorem only0 : ∀ a b c : Fin 3, (a.val != b.val && a.val != c.val && b.val != c.val && !betB L0 b.val a.val && !betB L0 c.val a.val && !betB L0 c.val b.val) = true → (a.val == 0 && b.val == 1 && c.val == 2) = true := by decide +kernel
theorem srt0 {S : List Nat} (h : Srt L0 S) : S = [0, 1, 2] := by
  have hl := h.len
  match S, hl with
  | [a, b, c], _ =>
    have ha : a < 3 := h.lt (by simp)
    have hb : b < 3 := h.lt (by simp)
    have hc : c < 3 := h.lt (by simp)
    have hn := h.nodup
    have hs := h.srt
    simp only [List.nodup_cons, List.mem_cons, List.not_mem_nil, or_false, not_or, List.pairwise_cons, forall_eq_or_imp, forall_eq] at hn hs
    have := only0 ⟨a, ha⟩ ⟨b, hb⟩ ⟨c, hc⟩ (by simp [hn.1.1, hn.1.2, hn.2.1, hs.1.1, hs.1.2, hs.2.1])
    simp only [Bool.and_eq_true, beq_iff_eq] at this
    rw [this.1.1, this.1.2, this.2]
theorem keep0 : keepF L0 [0, 1, 2] 0 = true ∧ keepF L0 [0, 1, 2] 1 = false ∧ keepF L0 [0, 1, 2] 2 = false := by decide +kernel

theorem lns0 (w : World) : Lns (w.alloc (.cells #[.int .i64 3, .int .i64 4, .bool false, .int .i64 4, .int .i64 4, .bool false, .int .i64 5, .int .i64 9, .bool false] 29)) (some ⟨w.heap.size, 0, none⟩) L0 := by
  intro i hi
  refine ⟨w.heap.size, 0, rfl, ?_⟩
  have hlt : w.heap.size < (w.alloc (.cells #[.int .i64 3, .int .i64 4, .bool false, .int .i64 4, .int .i64 4, .bool false, .int .i64 5, .int .i64 9, .bool false] 29)).heap.size := by simp
  match i, hi with
  | 0, _ => exact ⟨hlt, box_cell w _ 29 rfl, box_cell w _ 29 rfl, box_cell w _ 29 rfl⟩
  | 1, _ => exact ⟨hlt, box_cell w _ 29 rfl, box_cell w _ 29 rfl, box_cell w _ 29 rfl⟩
  | 2, _ => exact ⟨hlt, box_cell w _ 29 rfl, box_cell w _ 29 rfl, box_cell w _ 29 rfl⟩

set_option maxHeartbeats 2000000 in
set_option maxRecDepth 100000 in
theorem awake_any (w : World) : Calls Try.prog 6 #[] w fun e w' => e = .returned (.bool true) ∧ Below w.heap.size w w' := by
  have C := keep_any (w.alloc (.cells #[.int .i64 3, .int .i64 4, .bool false, .int .i64 4, .int .i64 4, .bool false, .int .i64 5, .int .i64 9, .bool false] 29)) (some ⟨w.heap.size, 0, none⟩) 3 L0 (lns0 w) (by decide) may0
  have hs : (w.alloc (.cells #[.int .i64 3, .int .i64 4, .bool false, .int .i64 4, .int .i64 4, .bool false, .int .i64 5, .int .i64 9, .bool false] 29)).heap.size = w.heap.size + 1 := by simp
  have C2 : Calls Try.prog 7 #[.slice (some ⟨w.heap.size, 0, none⟩) 3 3] (w.alloc (.cells #[.int .i64 3, .int .i64 4, .bool false, .int .i64 4, .int .i64 4, .bool false, .int .i64 5, .int .i64 9, .bool false] 29)) fun e w' => e = .returned (.slice (some ⟨w.heap.size + 1, 0, none⟩) 3 3) ∧ (w'.cell? ⟨w.heap.size + 1, 0, none⟩ = some (.bool true) ∧ w'.cell? ⟨w.heap.size + 1, 1, none⟩ = some (.bool false) ∧ w'.cell? ⟨w.heap.size + 1, 2, none⟩ = some (.bool false)) ∧ Below w.heap.size w w' := by
    refine C.mono ?_
    rintro e w' ⟨S, he, hK⟩
    have hS := srt0 hK.srt
    subst hS
    have hb := hK.bk
    have hbl := hK.bel
    rw [hs] at hb he hbl
    obtain ⟨k0, k1, k2⟩ := keep0
    have a0 := hb.cell (i := 0) (by decide)
    have a1 := hb.cell (i := 1) (by decide)
    have a2 := hb.cell (i := 2) (by decide)
    rw [k0] at a0
    rw [k1] at a1
    rw [k2] at a2
    exact ⟨he, ⟨a0, a1, a2⟩, (below_alloc w _).trans (hbl.mono (by omega))⟩
  replace C2 := hide C2
  have CQ : Hid (∀ w, Calls Try.prog 10 #[.int .i64 10, .int .i64 1] w fun e w' => e = .returned (.int .i64 12) ∧ w' = w) := fun w => quota_yes w 10 1 (by decide) (by decide) (by decide)
  clear C hs
  go_enter Try.func6, Try.ntmps6
  go_upto_region 2 with (go_at_call 7; refine (unhide C2).mono ?_; rintro e w1 ⟨rfl, ⟨a0, a1, a2⟩, hb⟩)
  have HB := hide hb
  clear hb C2
  go_wp2_with (go_at_call 10; refine (unhide CQ _).mono ?_; rintro e w0 ⟨rfl, hw0⟩; subst w0)
  go_ret
  exact ⟨rfl, HB.out⟩

end Go.Proofs.Ytbmefipobnamjaa
