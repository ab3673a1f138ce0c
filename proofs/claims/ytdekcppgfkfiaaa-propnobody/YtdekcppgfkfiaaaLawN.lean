/- The law: every call of nobody. -/
import Derived.Test.YtdekcppgfkfiaaaHe
import Derived.Test.YtdekcppgfkfiaaaNb
set_option linter.unusedVariables false
set_option linter.unusedSimpArgs false
namespace Go.Proofs.Ytdekcppgfkfiaaa
open Go.RowKit

theorem drewB {b : Nat} {w w' : World} (h : Below b w w') (n : Nat) : Below b w (w'.drewN n) := ⟨h.os, h.tape, h.output, h.size, h.block⟩

/-- Every call of nobody. -/
structure Nobs (W : World) (z : Value) (l : Int) (c : Value) : Prop where
  c23 : Calls Try.prog 23 #[z, .int .i64 l] W fun e w' => e = .returned (.tuple #[]) ∧ ∃ n, w' = W.drewN n
  c24 : ∀ m, Calls Try.prog 24 #[z, c] (W.drewN m) fun e w' => e = .returned (.tuple #[.int .i64 0, .int .i64 1]) ∧ ∃ n, w' = (W.drewN m).drewN n
  c25 : ∀ m, Calls Try.prog 25 #[z, .int .i64 l] (W.drewN m) fun e w' => e = .returned (.tuple #[.slice none 0 0, .bool false]) ∧ ∃ n, w' = (W.drewN m).drewN n
  c26 : ∀ m, Calls Try.prog 26 #[z, .int .i64 l] (W.drewN m) fun e w' => e = .returned (.int .i64 4) ∧ ∃ n, w' = (W.drewN m).drewN n
  c27 : ∀ m, Calls Try.prog 27 #[z, .int .i64 l] (W.drewN m) fun e w' => e = .returned (.int .i64 1) ∧ ∃ n, w' = (W.drewN m).drewN n
  c15 : ∀ m, Calls Try.prog 15 #[z] (W.drewN m) fun e w' => e = .returned (.int .i64 (-1)) ∧ ∃ n, w' = (W.drewN m).drewN n
  c28 : ∀ m, Calls Try.prog 28 #[z, .int .i64 l] (W.drewN m) fun e w' => e = .returned (.int .i64 0) ∧ ∃ n, w' = (W.drewN m).drewN n
  c29 : ∀ m, Calls Try.prog 29 #[z, .int .i64 l] (W.drewN m) fun e w' => e = .returned (.int .i64 (-1)) ∧ ∃ n, w' = (W.drewN m).drewN n
  c30 : ∀ m, Calls Try.prog 30 #[z, .int .i64 l] (W.drewN m) fun e w' => e = .returned (.int .i64 (-1)) ∧ ∃ n, w' = (W.drewN m).drewN n
  c31 : ∀ m, Calls Try.prog 31 #[z] (W.drewN m) fun e w' => e = .returned (.int .i64 0) ∧ ∃ n, w' = (W.drewN m).drewN n
  c16 : ∀ m, Calls Try.prog 16 #[z] (W.drewN m) fun e w' => e = .returned (.slice none 0 0) ∧ ∃ n, w' = (W.drewN m).drewN n

theorem nobs {W : World} {z : Value} (h : Nob W z) (l : Int) (hl : l ≤ 9223372036854775807) (c : Value) : Nobs W z l c :=
  ⟨back_nob h l hl, fun m => add_nob (h.drewN m) c, fun m => clause_nob (h.drewN m) l, fun m => drop_nob (h.drewN m) l, fun m => decide_nob (h.drewN m) l, fun m => run_nob (h.drewN m), fun m => value_nob (h.drewN m) l, fun m => level_nob (h.drewN m) l, fun m => reason_nob (h.drewN m) l, fun m => levels_nob (h.drewN m), fun m => trail_nob (h.drewN m)⟩

set_option maxHeartbeats 4000000 in
set_option maxRecDepth 100000 in
theorem nobody_any (w : World) (d l : Int) (a : Option Addr) (n cap : Nat) (hl : l ≤ 9223372036854775807) :
    Calls Try.prog 6 #[.agg #[.int .i64 d, .int .i64 l, .slice a n cap]] w fun e w' => e = .returned (.bool true) ∧ Below w.heap.size w w' := by
  have hbW := below_alloc w (.cells #[.int .i64 d, .int .i64 l, .slice a n cap] 41)
  have HB := hide hbW
  have hc1 : (w.alloc (.cells #[.int .i64 d, .int .i64 l, .slice a n cap] 41)).cell? ⟨w.heap.size, 1, none⟩ = some (.int .i64 l) := by rw [World.cell?_alloc_at _ _ _ _ rfl]; rfl
  have hc2 : (w.alloc (.cells #[.int .i64 d, .int .i64 l, .slice a n cap] 41)).cell? ⟨w.heap.size, 2, none⟩ = some (.slice a n cap) := by rw [World.cell?_alloc_at _ _ _ _ rfl]; rfl
  have hs : (w.alloc (.cells #[.int .i64 d, .int .i64 l, .slice a n cap] 41)).heap.size = w.heap.size + 1 := by simp
  go_enter Try.func6, Try.ntmps6
  go_wp2_with fail
  go_loopw [3] (fun i wr => ∃ k : Nat, k ≤ 2 ∧ i = .int .i64 k ∧ wr.cell? ⟨w.heap.size, 1, none⟩ = some (.int .i64 l) ∧ wr.cell? ⟨w.heap.size, 2, none⟩ = some (.slice a n cap) ∧ Hid (Below w.heap.size w wr)) (fun i _ => 2 - (intOf i).toNat)
  case atStart => exact ⟨0, by omega, rfl, hc1, hc2, HB⟩
  case round =>
    obtain ⟨k, hk, rfl, g1, g2, HBr⟩ := hrel
    clear hc1 hc2 hs HB hbW
    have h3 : k = 0 ∨ k = 1 ∨ k = 2 := by omega
    rcases h3 with rfl | rfl | rfl
    · have HN : Hid (Nobs wr (.pointer none) l (.slice a n cap)) := nobs (.inl rfl) l hl _
      go_wp2_with (first
          | (go_at_call 23; refine Calls.mono HN.out.c23 ?_; rintro e w0 ⟨rfl, n0, rfl⟩)
          | (go_at_call 24; refine Calls.mono (HN.out.c24 _) ?_; rintro e w0 ⟨rfl, n1, rfl⟩)
          | (go_at_call 25; refine Calls.mono (HN.out.c25 _) ?_; rintro e w0 ⟨rfl, n2, rfl⟩)
          | (go_at_call 26; refine Calls.mono (HN.out.c26 _) ?_; rintro e w0 ⟨rfl, n3, rfl⟩)
          | (go_at_call 27; refine Calls.mono (HN.out.c27 _) ?_; rintro e w0 ⟨rfl, n4, rfl⟩)
          | (go_at_call 15; refine Calls.mono (HN.out.c15 _) ?_; rintro e w0 ⟨rfl, n5, rfl⟩)
          | (go_at_call 28; refine Calls.mono (HN.out.c28 _) ?_; rintro e w0 ⟨rfl, n6, rfl⟩)
          | (go_at_call 29; refine Calls.mono (HN.out.c29 _) ?_; rintro e w0 ⟨rfl, n7, rfl⟩)
          | (go_at_call 30; refine Calls.mono (HN.out.c30 _) ?_; rintro e w0 ⟨rfl, n8, rfl⟩)
          | (go_at_call 31; refine Calls.mono (HN.out.c31 _) ?_; rintro e w0 ⟨rfl, n9, rfl⟩)
          | (go_at_call 16; refine Calls.mono (HN.out.c16 _) ?_; rintro e w0 ⟨rfl, n10, rfl⟩))
      exact ⟨⟨1, by omega, rfl, g1, g2, drewB HBr.out _⟩, by simp [intOf]⟩
    · have hnew1 := World.new_ne wr ⟨w.heap.size, 1, none⟩ g1
      have q1 := cellUp (.cells #[.pointer none, .int .i64 0, .slice none 0 0, .int .i64 0, .int .i64 0, .slice none 0 0, .slice none 0 0, .slice none 0 0, .slice none 0 0, .int .i64 0, .slice none 0 0, .slice none 0 0] 58) g1
      have q2 := cellUp (.cells #[.pointer none, .int .i64 0, .slice none 0 0, .int .i64 0, .int .i64 0, .slice none 0 0, .slice none 0 0, .slice none 0 0, .slice none 0 0, .int .i64 0, .slice none 0 0, .slice none 0 0] 58) g2
      have HB8 := HBr.out.trans ((below_alloc wr (.cells #[.pointer none, .int .i64 0, .slice none 0 0, .int .i64 0, .int .i64 0, .slice none 0 0, .slice none 0 0, .slice none 0 0, .slice none 0 0, .int .i64 0, .slice none 0 0, .slice none 0 0] 58)).mono HBr.out.size)
      have HN : Hid (Nobs (wr.alloc (.cells #[.pointer none, .int .i64 0, .slice none 0 0, .int .i64 0, .int .i64 0, .slice none 0 0, .slice none 0 0, .slice none 0 0, .slice none 0 0, .int .i64 0, .slice none 0 0, .slice none 0 0] 58)) (.pointer (some ⟨wr.heap.size, 0, none⟩)) l (.slice a n cap)) := nobs (.inr ⟨_, rfl, by rw [World.cell?_alloc_at _ _ _ _ rfl]; rfl⟩) l hl _
      have HB9 := hide HB8
      clear HB8
      go_wp2_with (first
          | (go_at_call 23; refine Calls.mono HN.out.c23 ?_; rintro e w0 ⟨rfl, n0, rfl⟩)
          | (go_at_call 24; refine Calls.mono (HN.out.c24 _) ?_; rintro e w0 ⟨rfl, n1, rfl⟩)
          | (go_at_call 25; refine Calls.mono (HN.out.c25 _) ?_; rintro e w0 ⟨rfl, n2, rfl⟩)
          | (go_at_call 26; refine Calls.mono (HN.out.c26 _) ?_; rintro e w0 ⟨rfl, n3, rfl⟩)
          | (go_at_call 27; refine Calls.mono (HN.out.c27 _) ?_; rintro e w0 ⟨rfl, n4, rfl⟩)
          | (go_at_call 15; refine Calls.mono (HN.out.c15 _) ?_; rintro e w0 ⟨rfl, n5, rfl⟩)
          | (go_at_call 28; refine Calls.mono (HN.out.c28 _) ?_; rintro e w0 ⟨rfl, n6, rfl⟩)
          | (go_at_call 29; refine Calls.mono (HN.out.c29 _) ?_; rintro e w0 ⟨rfl, n7, rfl⟩)
          | (go_at_call 30; refine Calls.mono (HN.out.c30 _) ?_; rintro e w0 ⟨rfl, n8, rfl⟩)
          | (go_at_call 31; refine Calls.mono (HN.out.c31 _) ?_; rintro e w0 ⟨rfl, n9, rfl⟩)
          | (go_at_call 16; refine Calls.mono (HN.out.c16 _) ?_; rintro e w0 ⟨rfl, n10, rfl⟩))
      exact ⟨⟨2, by omega, rfl, q1, q2, drewB HB9.out _⟩, by simp [intOf]⟩
    · have AW := hide (awake_any wr)
      go_wp2_with fail
      refine Calls.mono (unhide AW) ?_
      rintro e w1 ⟨rfl, hb1⟩
      go_wp2_with fail
      go_ret
      exact ⟨rfl, HBr.out.trans (hb1.mono HBr.out.size)⟩
end Go.Proofs.Ytdekcppgfkfiaaa
