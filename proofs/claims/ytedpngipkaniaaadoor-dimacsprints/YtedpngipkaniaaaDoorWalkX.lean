/- Contract: the law's own small case. -/
import Derived.Test.YtedpngipkaniaaaDoorWalkW
import Derived.Lib.SlBytesConst
set_option linter.unusedVariables false
set_option linter.unusedSimpArgs false
namespace Go.Proofs.YtedpngipkaniaaaDoor
open Go.RowKit Go.Maps

attribute [local go_sem ↓] Go.wp_at_zero Go.wp_at_succ

/-- p cnf 2 1, a line feed, 1 -2 0, a line feed. -/
def awakeT : List UInt8 := [112, 32, 99, 110, 102, 32, 50, 32, 49, 10, 49, 32, 45, 50, 32, 48, 10]

theorem Wds.first {v post : List UInt8} {ws : List (List UInt8)} (h2 : v ≠ []) (h3 : v.all (fun c => !blB c) = true) (h4 : post = [] ∨ ∃ c r, post = c :: r ∧ blB c = true) (h5 : Wds post ws) : Wds (v ++ post) (v :: ws) :=
  Wds.word (pre := []) rfl h2 h3 h4 h5
theorem Wds.next {v post : List UInt8} {ws : List (List UInt8)} (h2 : v ≠ []) (h3 : v.all (fun c => !blB c) = true) (h4 : post = [] ∨ ∃ c r, post = c :: r ∧ blB c = true) (h5 : Wds post ws) : Wds (32 :: (v ++ post)) (v :: ws) :=
  Wds.word (pre := [32]) rfl h2 h3 h4 h5

theorem awake_text : TextR St.zero awakeT ⟨true, 2, 1, [[1, -2]], []⟩ := by
  refine TextR.line (l := [112, 32, 99, 110, 102, 32, 50, 32, 49]) (rest := [49, 32, 45, 50, 32, 48, 10]) (by decide) (ws := [[112], [99, 110, 102], [50], [49]]) ?_ (LineR.head (s := St.zero) (v := [50]) (k := [49]) rfl (by decide) (by decide) (by decide) (by decide) (by decide) (by decide)) ?_
  · show Wds ([112] ++ (32 :: ([99, 110, 102] ++ (32 :: ([50] ++ (32 :: ([49] ++ []))))))) _
    exact Wds.first (by decide) (by decide) (.inr ⟨_, _, rfl, by decide⟩) (Wds.next (by decide) (by decide) (.inr ⟨_, _, rfl, by decide⟩) (Wds.next (by decide) (by decide) (.inr ⟨_, _, rfl, by decide⟩) (Wds.next (by decide) (by decide) (.inl rfl) (Wds.done rfl))))
  · refine TextR.line (l := [49, 32, 45, 50, 32, 48]) (rest := []) (by decide) (ws := [[49], [45, 50], [48]]) ?_ (s' := ⟨true, 2, 1, [[1, -2]], []⟩) ?_ .nil
    · show Wds ([49] ++ (32 :: ([45, 50] ++ (32 :: ([48] ++ []))))) _
      exact Wds.first (by decide) (by decide) (.inr ⟨_, _, rfl, by decide⟩) (Wds.next (by decide) (by decide) (.inr ⟨_, _, rfl, by decide⟩) (Wds.next (by decide) (by decide) (.inl rfl) (Wds.done rfl)))
    · refine LineR.words rfl (by decide) (.cons (.lit (by decide) (by decide) (by decide) (by decide) (by decide) (by decide)) (.cons (.lit (by decide) (by decide) (by decide) (by decide) (by decide) (by decide)) (.cons (.zero (by decide) (by decide) (by decide)) ?_)))
      exact .nil

theorem txt_block {w : World} {N : Nat} {cs : Array Value} {fr : Nat × Nat} {t : List UInt8} (h : w.heap[N]? = some (.cells cs 5 fr)) (hc : ∀ i (h : i < t.length), cs[i]? = some (.int .u8 (t[i].toNat : Int))) : Txt (N + 1) w (some ⟨N, 0, none⟩) t := by
  intro i hi
  refine ⟨N, 0, rfl, by omega, ?_⟩
  rw [Nat.zero_add]
  simp [World.cell?, h]
  exact hc i hi

/-- A text's bytes, as cells. -/
def byteCells (t : List UInt8) : Array Value := (t.map fun c => Value.int .u8 (c.toNat : Int)).toArray

theorem txt_new (w : World) (t : List UInt8) (fr : Nat × Nat) : Txt (w.heap.size + 1) (w.alloc (.cells (byteCells t) 5 fr)) (some ⟨w.heap.size, 0, none⟩) t :=
  txt_block (heap_alloc_new w (.cells (byteCells t) 5 fr)) (fun i hi => by simp [byteCells, hi])

set_option maxHeartbeats 4000000 in
theorem awake_any (w : World) : Calls Tryd.prog 5 #[] w fun e w' => e = .returned (.bool true) ∧ Below w.heap.size w w' := by
  have hT := txt_new w awakeT (17, 18)
  have hsz := size_alloc w (.cells (byteCells awakeT) 5 (17, 18))
  have C := read_any (w.alloc (.cells (byteCells awakeT) 5 (17, 18))) (some ⟨w.heap.size, 0, none⟩) 17 awakeT (by rw [hsz]; exact hT) (by decide) (by decide) _ awake_text rfl rfl rfl
  have C2 : Calls Tryd.prog 9 #[.slice (some ⟨w.heap.size, 0, none⟩) 17 17] (w.alloc (.cells (byteCells awakeT) 5 (17, 18))) fun e w' =>
      ∃ (b0 o0 c0 b1 o1 c1 : Nat), e = .returned (.tuple #[.agg #[.int .i64 2, .slice (some ⟨b0, o0, none⟩) 1 c0], .int .i64 0, .int .i64 0]) ∧ b0 < w'.heap.size ∧ b1 < w'.heap.size ∧ w'.cell? ⟨b0, o0, none⟩ = some (.slice (some ⟨b1, o1, none⟩) 2 c1) ∧ w'.cell? ⟨b1, o1 + 1, none⟩ = some (.int .i64 (-2)) ∧ Hid (Below w.heap.size w w') := by
    refine C.mono ?_
    rintro e x ⟨v, he, hog, hbl⟩
    obtain ⟨a, cap, rfl, hgrid, -⟩ := hog.grid
    obtain ⟨b0, o0, a1, c1, rfl, hb0, hc0, hrow, -⟩ := hgrid 0 (by decide)
    obtain ⟨b1, o1, rfl, hb1, hc1⟩ := hrow 1 (by decide)
    exact ⟨b0, o0, cap, b1, o1, c1, he, hb0, hb1, hc0, hc1, (below_alloc w _).trans (hbl.mono (by simp))⟩
  have hcv := Lib.run_convert_bytes_const (P := Tryd.prog) w 27 5 (byteCells awakeT) 17 17 Tryd.underlying27 Tryd.underlying5
  have hbs : (byteCells awakeT).size = 17 := rfl
  rw [hbs] at hcv
  have hbc : byteCells awakeT = #[.int .u8 112, .int .u8 32, .int .u8 99, .int .u8 110, .int .u8 102, .int .u8 32, .int .u8 50, .int .u8 32, .int .u8 49, .int .u8 10, .int .u8 49, .int .u8 32, .int .u8 45, .int .u8 50, .int .u8 32, .int .u8 48, .int .u8 10] := rfl
  rw [hbc] at hcv C2
  replace C2 := hide C2
  clear C hT hsz hbs hbc
  go_enter Tryd.func5, Tryd.ntmps5
  go_wp2_with (go_at_call 9; refine (unhide C2).mono ?_; rintro e w2 ⟨b0, o0, c0, b1, o1, c1, rfl, hb0, hb1, hx0, hx1, HB⟩)
  go_ret
  exact ⟨rfl, HB.out.alloc HB.out.size _⟩

end Go.Proofs.YtedpngipkaniaaaDoor
