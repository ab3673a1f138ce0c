/- A clause watches a literal: the row of the literal's watches is one more. -/
import Derived.Test.YtlmbgaconjcaiabGc
set_option linter.unusedVariables false
set_option linter.unusedSimpArgs false
namespace Go.Proofs.Ytlmbgaconjcaiab
open Go.RowKit

theorem Try.info100 : (Try.prog.info? 100).map (fun i => (i.zero, i.size, i.bytes)) = some (some (.agg #[.pointer none, .int .i64 0]), 2, 16) := by kernel_rfl

theorem below_drew_alloc (w : World) (o : Obj) : Below w.heap.size w (w.drew.alloc o) := (Below.refl _ _).drew.alloc (Nat.le_refl _) o

theorem wAfter {w x w3 : World} {b i : Nat} {u v : Value} (hc : w.cell? ⟨b, i, none⟩ = some v) (hb : Below w.heap.size w x) (hg : x.grownBy w3 u.ownBlock) (hn : ∀ k, u.ownBlock = some k → k ≠ b) : w3.cell? ⟨b, i, none⟩ = some v ∧ w3.frozen? ⟨b, i, none⟩ = w.frozen? ⟨b, i, none⟩ := by
  have hlt : b < w.heap.size := World.block_lt_of_cell? w ⟨b, i, none⟩ hc
  have e : w3.heap[b]? = w.heap[b]? := (hg.block b (Nat.lt_of_lt_of_le hlt hb.size) (fun e => hn b e.symm rfl)).trans (hb.block b hlt)
  exact ⟨(World.cell?_of_block (a := ⟨b, i, none⟩) e).trans hc, World.frozen?_of_block (a := ⟨b, i, none⟩) e⟩

def WatchRaw (w : World) (gw k1 b n : Nat) (hint : Int) (u : Value) (xs : List Value) (w' : World) : Prop :=
  ∃ g3 cap3 w3, w3.ownsRow 0 100 2 (.slice (some ⟨g3, 0, none⟩) (n + 1) cap3) (n + 1) (xs ++ [.pointer (some ⟨b, 0, none⟩), .int .i64 hint]) ∧ (w.drew.alloc (.cells #[.pointer (some ⟨b, 0, none⟩), .int .i64 hint] 100)).grownBy w3 u.ownBlock ∧
    (u.ownBlock = some g3 ∨ g3 = w.heap.size + 1) ∧ w' = w3.setCell ⟨gw, k1, none⟩ (.slice (some ⟨g3, 0, none⟩) (n + 1) cap3)

set_option maxRecDepth 100000 in
set_option maxHeartbeats 40000000 in
theorem watch_raw (w : World) (B V N cap gw k1 b n : Nat) (l hint : Int) (u : Value) (xs : List Value) (hV : V ≤ 1048576) (hl0 : -1048576 ≤ l) (hl1 : l ≤ 1048576) (hb0 : (0 : Int) ≤ V + l) (hb1 : (V : Int) + l < N) (hix : ((V : Int) + l).toNat = k1)
    (c1 : w.cell? ⟨B, 1, none⟩ = some (.int .i64 V)) (c6 : w.cell? ⟨B, 6, none⟩ = some (.slice (some ⟨gw, 0, none⟩) N cap)) (d1 : w.cell? ⟨gw, k1, none⟩ = some u) (z1 : w.frozen? ⟨gw, k1, none⟩ = false)
    (hown : Hid (w.ownsRow 0 100 2 u n xs)) (hn : n ≤ 2000000) (hsep : Hid (∀ k, u.ownBlock = some k → k ≠ B ∧ k ≠ gw)) :
    Calls Try.prog 49 #[.pointer (some ⟨B, 0, none⟩), .int .i64 l, .pointer (some ⟨b, 0, none⟩), .int .i64 hint] w fun e w' => e = .returned (.tuple #[]) ∧ WatchRaw w gw k1 b n hint u xs w' := by
  have AF := hide (fun x w3 (hb : Below w.heap.size w x) (hg : x.grownBy w3 u.ownBlock) => (⟨wAfter c1 hb hg (fun k hk => (hsep.out k hk).1), wAfter c6 hb hg (fun k hk => (hsep.out k hk).1), wAfter d1 hb hg (fun k hk => (hsep.out k hk).2)⟩ : (_ ∧ _) ∧ (_ ∧ _) ∧ (_ ∧ _)))
  have hBlt : B < w.heap.size := World.block_lt_of_cell? w ⟨B, 1, none⟩ c1
  have hglt : gw < w.heap.size := World.block_lt_of_cell? w ⟨gw, k1, none⟩ d1
  have a1 : (w.alloc (.cells #[.pointer (some ⟨b, 0, none⟩), .int .i64 hint] 100)).cell? ⟨B, 1, none⟩ = some (.int .i64 V) := (World.cell?_of_block (a := ⟨B, 1, none⟩) (heap_alloc_old w _ hBlt)).trans c1
  have a6 : (w.alloc (.cells #[.pointer (some ⟨b, 0, none⟩), .int .i64 hint] 100)).cell? ⟨B, 6, none⟩ = some (.slice (some ⟨gw, 0, none⟩) N cap) := (World.cell?_of_block (a := ⟨B, 6, none⟩) (heap_alloc_old w _ hBlt)).trans c6
  have ad : (w.alloc (.cells #[.pointer (some ⟨b, 0, none⟩), .int .i64 hint] 100)).cell? ⟨gw, k1, none⟩ = some u := (World.cell?_of_block (a := ⟨gw, k1, none⟩) (heap_alloc_old w _ hglt)).trans d1
  obtain ⟨i0, hi0, hz0, hz1, hz2⟩ := info_parts Try.info100
  go_enter Try.func49, Try.ntmps49
  go_wp2_with fail
  go_region_law (first
    | (refine step_append_lies _ (by rfl) (.tmp 23) (.tmp 27) 98 (by rfl) 0 100 i0 (.agg #[.pointer none, .int .i64 0]) 2 16 Try.underlying98 hi0 hz0 hz1 hz2 rfl (by decide) u n xs (by rfl) (hown.out.drew.alloc _) ⟨w.heap.size, 0, none⟩ 1 1 [.pointer (some ⟨b, 0, none⟩), .int .i64 hint] (by rfl) (by rfl) (World.news_of_block (cs := #[.pointer (some ⟨b, 0, none⟩), .int .i64 hint]) (t := 100) (fr := (0, 0)) (heap_alloc_new w.drew _)) (by simp [Value.oneCell']) (by decide) (by unfold maxLen; omega) (by omega) (Nat.zero_le _) (w.heap.size + 1) (by simp) ?_; intro g3 cap3 w3 hown3 hgrow3 hat3 hlt3; obtain ⟨⟨x1, y1⟩, ⟨x2, y2⟩, ⟨x3, y3⟩⟩ := AF.out _ _ (below_drew_alloc w _) hgrow3)
    | (go_simp; go_at_call 55; refine (at_cell _ _ V _ (by first | exact c1 | exact a1 | exact x1) (by omega) (by omega) (by omega)).mono ?_; rintro e w' ⟨rfl, rfl⟩))
  all_goals
    go_end0
    exact ⟨rfl, g3, cap3, w3, hown3, hgrow3, hat3, rfl⟩

end Go.Proofs.Ytlmbgaconjcaiab
