/- Joined: Contracts: the short proof proves; its formula is not broken by units alone. Contract: the short proof that every promise looks at first. -/
import Derived.Test.YtlmbgaconjcaiaaGreatRiAll
set_option linter.unusedVariables false
set_option linter.unusedSimpArgs false
namespace Go.Proofs.YtlmbgaconjcaiaaGreat
open Go.RowKit

theorem open_sh {W0 w1 : World} {k B : Nat} (h : OpenP W0 2 css4 steps2 k B w1) : Sh W0 w1 k B 0 ∧ W0.heap.size ≤ k := by
  obtain ⟨ρ, s, hK, hE, e1, e2, e3, e4, hk⟩ := h
  rw [spare2] at hK
  exact ⟨⟨ρ, s, hK, hE.evN k, e1.trans vars2, e2, e3, e4⟩, hk⟩
theorem evN_bel {w W0 w' : World} {ρ : Nat → Rl} {k : Nat} (h : EvN k free W0 ρ w') (hb : Below w.heap.size w W0) (hk : W0.heap.size ≤ k) : Below w.heap.size w w' := by
  have hs := hb.size
  exact ⟨h.os.trans hb.os, h.tape.trans hb.tape, h.output.trans hb.output, Nat.le_trans hs h.size, fun b hb' => (h.keep b (by omega) (by omega) rfl).trans (hb.block b hb')⟩
theorem evN_cell {W0 w' : World} {ρ : Nat → Rl} {k b i : Nat} {v : Value} (h : EvN k free W0 ρ w') (hk : W0.heap.size ≤ k) (hb : b < W0.heap.size) (hc : W0.cell? ⟨b, i, none⟩ = some v) : w'.cell? ⟨b, i, none⟩ = some v :=
  (World.cell?_of_block (a := ⟨b, i, none⟩) (h.keep b hb (by omega) rfl)).trans hc

set_option maxHeartbeats 4000000 in
set_option maxRecDepth 100000 in
theorem proves_aw (w : World) (a al : Option Addr) (cap cal : Nat) (hg : GridC w a css4) (hs : Sts w al steps2) :
    Calls Tryz.prog 20 #[.agg #[.int .i64 2, .slice a 4 cap], .slice al 2 cal] w fun e w' => e = .returned (.tuple #[.int .i64 1, .int .i64 0]) ∧ Below w.heap.size w w' := by
  have hb0 : Below w.heap.size w (w.alloc (.cells #[.int .i64 2, .slice a 4 cap] 24)) := below_alloc w _
  have GO := hide (open_yes a al cap cal 2 css4 steps2 (w.alloc (.cells #[.int .i64 2, .slice a 4 cap] 24)) (hg.below hb0) (by decide) (hs.below hb0) (by decide) (by decide) (by decide))
  have HS := hide (hs.below hb0)
  have HB0 := hide hb0
  clear hb0 hg hs
  go_enter Tryz.func20, Tryz.ntmps20
  go_upto_region 4 with (first | (go_at_call 26; refine (unhide GO).mono ?_; rintro e w1 ⟨k, B, rfl, hO⟩; replace hO := hide hO))
  generalize w.alloc (.cells #[.int .i64 2, .slice a 4 cap] 24) = W0 at *
  obtain ⟨hsh, hk⟩ := open_sh hO.out
  have H0 := hide hsh
  clear hsh hO GO
  obtain ⟨b0, off, a0, c0, rfl, hb, S0⟩ := HS.out 0 (by decide)
  obtain ⟨b1, off1, a1, c1, e1, _, S1⟩ := HS.out 1 (by decide)
  simp at e1
  obtain ⟨rfl, rfl⟩ := e1
  have p0 : W0.cell? ⟨b0, off, none⟩ = some (.bool false) := by simpa [steps2] using S0.c0
  have p1 : W0.cell? ⟨b0, off + 1, none⟩ = some (.slice a0 1 c0) := by simpa [steps2] using S0.c1
  have p2 : W0.cell? ⟨b0, off + 2, none⟩ = some (.bool false) := by simpa [steps2] using S1.c0
  have p3 : W0.cell? ⟨b0, off + 3, none⟩ = some (.slice a1 0 c1) := by simpa [steps2] using S1.c1
  have R0 : Hid (Row W0 a0 [2]) := S0.row
  have N0 := S0.nil
  have N1 := S1.nil
  clear S0 S1 HS
  go_wp2
  go_loopw [22] (fun x W => ∃ i : Nat, i ≤ 1 ∧ x = .int .i64 (i : Int) ∧ Hid (Sh W0 W k B i)) (fun x _ => 2 - (intOf x).toNat)
  case atStart => exact ⟨0, by omega, rfl, H0⟩
  case round =>
    obtain ⟨i, hi, rfl, HI⟩ := hrel
    clear H0
    obtain ⟨ρ, hE⟩ := HI.out.ev
    have q0 := evN_cell hE hk hb p0
    have q1 := evN_cell hE hk hb p1
    have q2 := evN_cell hE hk hb p2
    have q3 := evN_cell hE hk hb p3
    have hsz := hE.size
    clear hE
    by_cases hi0 : i = 0
    · subst hi0
      have G := hide (do_one HI.out hk (.cells #[.bool false, .slice a0 1 c0] 32) a0 c0 R0.out N0)
      clear HI
      go_wp2_with (first | (go_at_call 33; refine (unhide G).mono ?_; rintro e w2 ⟨rfl, hsh2, hbx⟩; replace hsh2 := hide hsh2; have x0 : w2.cell? ⟨wr.heap.size, 0, none⟩ = some (.bool false) := cell_of_block hbx rfl; have x1 : w2.cell? ⟨wr.heap.size, 1, none⟩ = some (.slice a0 1 c0) := cell_of_block hbx rfl; clear hbx))
      go_roundw
      case rel => exact ⟨1, by omega, by go_num, hsh2⟩
      case measure => simp [intOf]
    · obtain rfl : i = 1 := by omega
      have G := hide (do_two HI.out hk (.cells #[.bool false, .slice a1 0 c1] 32) a1 c1 N1)
      clear HI
      go_wp2_with (first | (go_at_call 33; refine (unhide G).mono ?_; rintro e w2 ⟨rfl, ⟨ρ2, hE2⟩, hbx⟩; replace hE2 := hide hE2; have x0 : w2.cell? ⟨wr.heap.size, 0, none⟩ = some (.bool false) := cell_of_block hbx rfl; have x1 : w2.cell? ⟨wr.heap.size, 1, none⟩ = some (.slice a1 0 c1) := cell_of_block hbx rfl; clear hbx))
      go_ret2
      exact ⟨rfl, evN_bel hE2.out HB0.out hk⟩

/-- Units alone don't break it. -/
theorem unit_aw {b : Bool} (h : UnitE 2 css4 [] b) : b = false := by
  obtain ⟨t, ds, hI, hk, hd, _, hds, hT⟩ := h
  have hs3 : spareN 2 [⟨false, []⟩] = 3 := by decide
  rw [hs3] at hd
  have hnil : ds = [] := by
    cases ds with
    | nil => rfl
    | cons d r => have := hds d (by simp); simp at this
  have hdec : t.dec = [3] := by rw [hd (by omega), hnil]; rfl
  rcases hT with ⟨_, h⟩ | ⟨h, _⟩
  · rcases h with ⟨l, hl, _⟩ | ⟨n, hn⟩
    · simp at hl
    · exact (aw_three hI hk hdec hn).elim
  · exact h

set_option maxHeartbeats 4000000 in
set_option maxRecDepth 100000 in
theorem broken_aw (w : World) (a : Option Addr) (cap : Nat) (hg : GridC w a css4) :
    Calls Tryz.prog 15 #[.agg #[.int .i64 2, .slice a 4 cap]] w fun e w' => e = .returned (.bool false) ∧ Below w.heap.size w w' := by
  have hb0 : Below w.heap.size w (w.alloc (.cells #[.int .i64 2, .slice a 4 cap] 24)) := below_alloc w _
  have GU : Hid (Calls Tryz.prog 11 #[.agg #[.int .i64 2, .slice a 4 cap], .slice none 0 0] (w.alloc (.cells #[.int .i64 2, .slice a 4 cap] 24)) fun e w' => e = .returned (.bool false) ∧ Below w.heap.size w w') := by
    refine (unit_yes a none cap 0 2 css4 [] _ (hg.below hb0) (by decide) (fun i hi => by simp at hi) (by simp) (fun _ => rfl) (by decide) (by decide)).mono ?_
    rintro e w' ⟨b, rfl, ⟨_, hE⟩, hb⟩
    rw [unit_aw hE]
    exact ⟨rfl, hb0.trans (hb.mono hb0.size)⟩
  clear hg hb0
  go_enter Tryz.func15, Tryz.ntmps15
  go_wp2_with (first | (go_at_call 11; refine (unhide GU).mono ?_; rintro e w1 ⟨rfl, hb1⟩))
  go_ret
  exact ⟨rfl, hb1⟩
end Go.Proofs.YtlmbgaconjcaiaaGreat

namespace Go.Proofs.YtlmbgaconjcaiaaGreat
open Go.RowKit

theorem heap_at {w W : World} {os : List Obj} (h : W.heap = w.heap ++ os.toArray) {i : Nat} {o : Obj} (hi : os[i]? = some o) : W.heap[w.heap.size + i]? = some o := by
  rw [h, Array.getElem?_append_right (by omega)]
  simpa using hi
theorem row_two {W : World} {g : Nat} {a b : Int} (h : W.heap[g]? = some (.cells #[.int .i64 a, .int .i64 b] 3 (0, 0))) : Row W (some ⟨g, 0, none⟩) [a, b] := by
  have hg := lt_of_block h
  intro i hi
  refine ⟨g, 0, rfl, hg, cell_of_block h ?_⟩
  match i, hi with
  | 0, _ => rfl
  | 1, _ => rfl
  | i + 2, hi => simp at hi; omega
theorem row_one {W : World} {g : Nat} {a : Int} (h : W.heap[g]? = some (.cells #[.int .i64 a] 3 (0, 0))) : Row W (some ⟨g, 0, none⟩) [a] := by
  have hg := lt_of_block h
  intro i hi
  refine ⟨g, 0, rfl, hg, cell_of_block h ?_⟩
  match i, hi with
  | 0, _ => rfl
  | i + 1, hi => simp at hi

def awRow (n : Nat) : Obj := .cells #[.slice (some ⟨n, 0, none⟩) 2 2, .slice (some ⟨n + 1, 0, none⟩) 2 2, .slice (some ⟨n + 2, 0, none⟩) 2 2, .slice (some ⟨n + 3, 0, none⟩) 2 2] 25
def awObjs (n : Nat) : List Obj := [.cells #[.int .i64 1, .int .i64 2] 3, .cells #[.int .i64 (-1), .int .i64 2] 3, .cells #[.int .i64 1, .int .i64 (-2)] 3, .cells #[.int .i64 (-1), .int .i64 (-2)] 3, awRow n, .cells #[.int .i64 2, .slice (some ⟨n + 4, 0, none⟩) 4 4] 24, .cells #[.int .i64 2] 3, .cells #[.bool false, .slice (some ⟨n + 6, 0, none⟩) 1 1, .bool false, .slice none 0 0] 32]
def awW (w : World) : World := (awObjs w.heap.size).foldl World.alloc w
theorem awW_heap (w : World) : (awW w).heap = w.heap ++ (awObjs w.heap.size).toArray := by
  unfold awW awObjs
  simp only [List.foldl]
  show ((((((((w.heap.push _).push _).push _).push _).push _).push _).push _).push _) = _
  apply Array.ext'
  simp
theorem awW_bel (w : World) : Below w.heap.size w (awW w) := by
  have h : ∀ (os : List Obj) (W : World), Below w.heap.size w W → Below w.heap.size w (os.foldl World.alloc W) := by
    intro os
    induction os with
    | nil => intro W h; exact h
    | cons o r ih => intro W h; exact ih _ (h.alloc h.size _)
  exact h _ w (Below.refl _ _)
theorem awW_grid (w : World) : GridC (awW w) (some ⟨w.heap.size + 4, 0, none⟩) css4 := by
  have h0 := heap_at (awW_heap w) (i := 0) rfl
  have h1 := heap_at (awW_heap w) (i := 1) rfl
  have h2 := heap_at (awW_heap w) (i := 2) rfl
  have h3 := heap_at (awW_heap w) (i := 3) rfl
  have h4 := heap_at (awW_heap w) (i := 4) rfl
  have hl := lt_of_block h4
  intro i hi
  match i, hi with
  | 0, _ => exact ⟨w.heap.size + 4, 0, some ⟨w.heap.size, 0, none⟩, 2, rfl, hl, cell_of_block h4 rfl, row_two h0, by simp [css4, maxLen], by simp⟩
  | 1, _ => exact ⟨w.heap.size + 4, 0, some ⟨w.heap.size + 1, 0, none⟩, 2, rfl, hl, cell_of_block h4 rfl, row_two h1, by simp [css4, maxLen], by simp⟩
  | 2, _ => exact ⟨w.heap.size + 4, 0, some ⟨w.heap.size + 2, 0, none⟩, 2, rfl, hl, cell_of_block h4 rfl, row_two h2, by simp [css4, maxLen], by simp⟩
  | 3, _ => exact ⟨w.heap.size + 4, 0, some ⟨w.heap.size + 3, 0, none⟩, 2, rfl, hl, cell_of_block h4 rfl, row_two h3, by simp [css4, maxLen], by simp⟩
  | i + 4, hi => simp [css4] at hi; omega
theorem awW_sts (w : World) : Sts (awW w) (some ⟨w.heap.size + 7, 0, none⟩) steps2 := by
  have h6 := heap_at (awW_heap w) (i := 6) rfl
  have h7 := heap_at (awW_heap w) (i := 7) rfl
  have hl := lt_of_block h7
  intro i hi
  match i, hi with
  | 0, _ => exact ⟨w.heap.size + 7, 0, some ⟨w.heap.size + 6, 0, none⟩, 1, rfl, hl, cell_of_block h7 rfl, cell_of_block h7 rfl, row_one h6, by simp [steps2, maxLen], by simp⟩
  | 1, _ => exact ⟨w.heap.size + 7, 0, none, 0, rfl, hl, cell_of_block h7 rfl, cell_of_block h7 rfl, fun i hi => by simp [steps2] at hi, by simp [steps2, maxLen], fun _ => rfl⟩
  | i + 2, hi => simp [steps2] at hi; omega

set_option maxHeartbeats 4000000 in
set_option maxRecDepth 100000 in
theorem rupAwake_any (w : World) : Calls Tryz.prog 8 #[] w fun e w' => e = .returned (.bool true) ∧ Below w.heap.size w w' := by
  have GP := hide (proves_aw (awW w) (some ⟨w.heap.size + 4, 0, none⟩) (some ⟨w.heap.size + 7, 0, none⟩) 4 2 (awW_grid w) (awW_sts w))
  have GB : Hid (∀ W, Below (awW w).heap.size (awW w) W → Calls Tryz.prog 15 #[.agg #[.int .i64 2, .slice (some ⟨w.heap.size + 4, 0, none⟩) 4 4]] W fun e w' => e = .returned (.bool false) ∧ Below W.heap.size W w') := fun W hW => broken_aw W _ 4 ((awW_grid w).below hW)
  have hbx := heap_at (awW_heap w) (i := 5) rfl
  have HBX := hide hbx
  have HB0 := hide (awW_bel w)
  clear hbx
  go_enter Tryz.func8, Tryz.ntmps8
  go_wp2_with (first | (go_at_call 20; refine (unhide GP).mono ?_; rintro e w1 ⟨rfl, hb1⟩; have hbx1 := (hb1.block _ (lt_of_block HBX.out)).trans HBX.out; have x0 : w1.cell? ⟨w.heap.size + 1 + 1 + 1 + 1 + 1, 0, none⟩ = some (.int .i64 2) := cell_of_block hbx1 rfl; have x1 : w1.cell? ⟨w.heap.size + 1 + 1 + 1 + 1 + 1, 1, none⟩ = some (.slice (some ⟨w.heap.size + 4, 0, none⟩) 4 4) := cell_of_block hbx1 rfl; clear hbx1) | (go_at_call 15; refine (unhide GB w1 hb1).mono ?_; rintro e w2 ⟨rfl, hb2⟩))
  go_ret
  have h1 := HB0.out.trans (hb1.mono HB0.out.size)
  exact ⟨rfl, h1.trans (hb2.mono h1.size)⟩
end Go.Proofs.YtlmbgaconjcaiaaGreat
