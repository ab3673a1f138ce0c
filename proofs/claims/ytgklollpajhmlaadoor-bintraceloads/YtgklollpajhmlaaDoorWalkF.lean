/- Contracts: a number's word is read. -/
import Derived.Test.YtgklollpajhmlaaDoorWalkE
import Derived.Deep.RegionLaw
set_option linter.unusedVariables false
set_option linter.unusedSimpArgs false
namespace Go.Proofs.YtgklollpajhmlaaDoor
open Go.RowKit Go.Maps

attribute [local go_sem ↓] Go.wp_at_zero Go.wp_at_succ

theorem cn_word {v : List UInt8} (h : cnB v = true) : v ≠ [] ∧ v ≠ [100] := by
  refine ⟨fun e => ?_, fun e => ?_⟩
  · subst e; unfold cnB at h; rw [numB_nil] at h; cases h
  · subst e; rw [cnB_d] at h; cases h
theorem cn_del {s : Rs} {v : List UInt8} (h : cnB v = true) : delB s v = false := by
  unfold delB; simp [(cn_word h).2]
theorem wordE_cn {s : Rs} {v : List UInt8} (h : cnB v = true) : wordE s v = if cnV v ≠ 0 ∧ s.cl.length = 4096 then 3 else if s.openB = false ∧ s.steps.length = 262144 then 3 else 0 := by
  unfold wordE
  rw [if_neg (cn_word h).1, if_neg (by rintro ⟨e, _⟩; rw [h] at e; cases e)]

set_option maxHeartbeats 2000000 in
theorem readWord_wide (R : Nat) (w : World) (s : Rs) (vs vc : Value) (cells : List Value) (v : List UInt8) (h : Rd R w s vs vc cells) (hl : v.length ≤ maxLen) (h1 : cnB v = true) (h2 : cnV v ≠ 0) (h3 : s.cl.length = 4096) :
    Calls Tryd.prog 24 #[.pointer (some ⟨R, 0, none⟩), .string (str v)] w (Left R w s v) := by
  have HE : Hid (wordE s v = 3) := by show _ = _; rw [wordE_cn h1, if_pos ⟨h2, h3⟩]
  have he := str_e v (cn_word h1).1
  have hd := str_d v (cn_word h1).2
  have K := clauseNumber_any v w hl
  rw [h1] at K
  replace K := hide K
  have hne : (cnV v != 0) = true := by simpa using h2
  generalize cnV v = n at *
  have hR := lt_of_block h.blk
  obtain ⟨a, cap, rfl⟩ := Own.shape h.cur
  have HF : Hid (∀ x, Below w.heap.size w x → x.cell? ⟨R, 2, none⟩ = some (.slice a 4096 cap)) := fun x hx => by
    rw [← h3]; exact (rd_cells (h.below hx).blk).2.2.1
  clear h h1 h2 h3
  go_enter Tryd.func24, Tryd.ntmps24
  go_wp2_with (go_at_call 35; refine (unhide K).mono ?_; rintro e w1 ⟨rfl, hb1⟩; have f2 := HF.out _ hb1; have hR1 := Nat.lt_of_lt_of_le hR hb1.size)
  go_ret
  exact ⟨by rw [HE.out]; rfl, hb1.mono (by omega), fun e => by rw [HE.out] at e; cases e⟩

set_option maxHeartbeats 2000000 in
theorem readWord_many (R : Nat) (w : World) (s : Rs) (vs vc : Value) (cells : List Value) (v : List UInt8) (h : Rd R w s vs vc cells) (hl : v.length ≤ maxLen) (h1 : cnB v = true) (ho : s.openB = false) (h3 : s.steps.length = 262144) :
    Calls Tryd.prog 24 #[.pointer (some ⟨R, 0, none⟩), .string (str v)] w (Left R w s v) := by
  have hcl := (openB_no ho).2
  have HE : Hid (wordE s v = 3) := by show _ = _; rw [wordE_cn h1, if_neg (by rw [hcl]; simp), if_pos ⟨ho, h3⟩]
  have he := str_e v (cn_word h1).1
  have hd := str_d v (cn_word h1).2
  have C : Hid (∀ x, Below w.heap.size w x → Calls Tryd.prog 25 #[.pointer (some ⟨R, 0, none⟩)] x fun e w' => e = .returned (.bool false) ∧ w' = x) := fun x hx => by
    have := open_any R x s vs vc cells (h.below hx) (by rw [hcl]; simp)
    rw [ho] at this
    exact this
  have K := clauseNumber_any v w hl
  rw [h1] at K
  replace K := hide K
  generalize cnV v = n at *
  have hR := lt_of_block h.blk
  obtain ⟨a, cap, rfl⟩ := Own.shape h.cur
  obtain ⟨sa, sc, rfl⟩ := owns_shape h.row
  have HF : Hid (∀ x, Below w.heap.size w x → x.cell? ⟨R, 0, none⟩ = some (.slice sa 262144 sc) ∧ x.cell? ⟨R, 2, none⟩ = some (.slice a 0 cap)) := fun x hx => by
    have hl0 : s.cl.length = 0 := by rw [hcl]; rfl
    obtain ⟨f0, f1, f2, _⟩ := rd_cells (h.below hx).blk; rw [h3] at f0; rw [hl0] at f2; exact ⟨f0, f2⟩
  clear h h1 h3 ho hcl
  by_cases hn : n = 0
  · subst hn
    go_enter Tryd.func24, Tryd.ntmps24
    go_wp2_with (first
      | (go_at_call 25; refine (unhide C _ hb1).mono ?_; rintro e w0 ⟨rfl, hw0⟩; subst w0)
      | (go_at_call 35; refine (unhide K).mono ?_; rintro e w1 ⟨rfl, hb1⟩; obtain ⟨f0, f2⟩ := HF.out _ hb1; have hR1 := Nat.lt_of_lt_of_le hR hb1.size))
    go_ret
    exact ⟨by rw [HE.out]; rfl, hb1.mono (by omega), fun e => by rw [HE.out] at e; cases e⟩
  · have hne : (n != 0) = true := by simpa using hn
    go_enter Tryd.func24, Tryd.ntmps24
    go_wp2_with (first
      | (go_at_call 25; refine (unhide C _ hb1).mono ?_; rintro e w0 ⟨rfl, hw0⟩; subst w0)
      | (go_at_call 35; refine (unhide K).mono ?_; rintro e w1 ⟨rfl, hb1⟩; obtain ⟨f0, f2⟩ := HF.out _ hb1; have hR1 := Nat.lt_of_lt_of_le hR hb1.size))
    go_ret
    exact ⟨by rw [HE.out]; rfl, hb1.mono (by omega), fun e => by rw [HE.out] at e; cases e⟩

/-- What holds of the reader wherever nothing old has turned. -/
theorem rd_facts {R : Nat} {w : World} {s : Rs} {sa a : Option Addr} {sc cap : Nat} {cells : List Value} (h : Rd R w s (.slice sa s.steps.length sc) (.slice a s.cl.length cap) cells) :
    Hid (∀ x, Below w.heap.size w x → x.cell? ⟨R, 0, none⟩ = some (.slice sa s.steps.length sc) ∧ x.cell? ⟨R, 1, none⟩ = some (.bool s.del) ∧ x.cell? ⟨R, 2, none⟩ = some (.slice a s.cl.length cap) ∧ x.frozen? ⟨R, 0, none⟩ = false ∧ x.frozen? ⟨R, 1, none⟩ = false ∧ x.frozen? ⟨R, 2, none⟩ = false ∧ R < x.heap.size) :=
  fun x hx => by
    obtain ⟨f0, f1, f2, g0, g1, g2⟩ := rd_cells (h.below hx).blk
    exact ⟨f0, f1, f2, g0, g1, g2, lt_of_block (h.below hx).blk⟩

set_option maxHeartbeats 4000000 in
theorem readWord_lit (R : Nat) (w : World) (s : Rs) (vs vc : Value) (cells : List Value) (v : List UInt8) (h : Rd R w s vs vc cells) (hl : v.length ≤ maxLen) (h1 : cnB v = true) (h2 : cnV v ≠ 0) (h3 : s.cl.length < 4096) (h4 : s.openB = false → s.steps.length ≠ 262144) (h5 : s.steps.length ≤ 262144) :
    Calls Tryd.prog 24 #[.pointer (some ⟨R, 0, none⟩), .string (str v)] w (Left R w s v) := by
  obtain ⟨i0, hi, hz0, hz1, hz2⟩ := info_parts Tryd.info3
  have HE : Hid (wordE s v = 0) := by show _ = _; rw [wordE_cn h1, if_neg (by rintro ⟨_, e⟩; omega), if_neg (by rintro ⟨e1, e2⟩; exact h4 e1 e2)]
  have HS : Hid (wordS s v = ⟨s.steps, s.del, s.cl ++ [cnV v]⟩) := by
    show _ = _
    unfold wordS
    rw [if_neg (cn_word h1).1, cn_del h1, if_neg (by simp), if_pos h2]
  have he := str_e v (cn_word h1).1
  have hd := str_d v (cn_word h1).2
  have C : Hid (∀ x, Below w.heap.size w x → Calls Tryd.prog 25 #[.pointer (some ⟨R, 0, none⟩)] x fun e w' => e = .returned (.bool s.openB) ∧ w' = x) := fun x hx => open_any R x s vs vc cells (h.below hx) (by omega)
  have K := clauseNumber_any v w hl
  rw [h1] at K
  replace K := hide K
  have hne : (cnV v != 0) = true := by simpa using h2
  generalize cnV v = n at *
  obtain ⟨a, cap, rfl⟩ := Own.shape h.cur
  obtain ⟨sa, sc, rfl⟩ := owns_shape h.row
  have HF := rd_facts h
  have HR := hide h
  have h3' : ((s.cl.length : Int) == 4096) = false := beq_no (by omega)
  have hR := lt_of_block h.blk
  clear h h1 h2
  cases ho : s.openB
  all_goals
    rw [ho] at C
    have hm : s.openB = false → ((s.steps.length : Int) == 262144) = false := fun e => beq_no (by have := h4 e; omega)
    have hm' := hm
    clear hm
    first
      | (have hm := hm' ho; clear hm')
      | clear hm'
    clear ho h4
    go_enter Tryd.func24, Tryd.ntmps24
    go_wp2_with (first
      | (go_at_call 25; refine (unhide C _ hb1).mono ?_; rintro e w0 ⟨rfl, hw0⟩; subst w0)
      | (go_at_call 35; refine (unhide K).mono ?_; rintro e w1 ⟨rfl, hb1⟩; obtain ⟨f0, f1, f2, g0, g1, g2, hR1⟩ := HF.out _ hb1; have hcur := (HR.out.below hb1).cur)
      | (at_builtin; refine wpList_append_own_at _ rfl _ _ 34 rfl (R + 1) 3 i0 (.int .i64 0) 1 8 Tryd.underlying34 hi hz0 hz1 hz2 rfl (by decide) _ _ _ rfl (hcur.alloc _) ⟨w1.heap.size, 0, none⟩ 1 1 [.int .i64 n] rfl rfl (cell_one_new _ _ _) (fun x hx => by simp at hx; subst hx; rfl) (by unfold maxLen; omega) (by omega) (by simp; omega) ?_; intro v' w2 hown2 hgrow2 hnil hat2; obtain ⟨a', cap', rfl⟩ := owns_shape hown2; obtain ⟨q1, q2, q3⟩ := Rd.lit (HR.out.below hb1) hgrow2 hown2 hat2; obtain ⟨u0, u1, u2, u3, u4, u5⟩ := rd_cells q1; clear hown2 hgrow2 hnil hat2 q1))
    go_ret
    exact ⟨by rw [HE.out]; rfl, (hb1.mono (by omega)).trans q3, fun _ => ⟨_, _, _, by rw [HS.out]; exact q2⟩⟩

set_option maxHeartbeats 4000000 in
theorem readWord_zero (R : Nat) (w : World) (s : Rs) (vs vc : Value) (cells : List Value) (v : List UInt8) (h : Rd R w s vs vc cells) (hl : v.length ≤ maxLen) (h1 : cnB v = true) (h2 : cnV v = 0) (h3 : s.cl.length ≤ 4096) (h4 : s.openB = false → s.steps.length ≠ 262144) (h5 : s.steps.length ≤ 262144) :
    Calls Tryd.prog 24 #[.pointer (some ⟨R, 0, none⟩), .string (str v)] w (Left R w s v) := by
  obtain ⟨i0, hi, hz0, hz1, hz2⟩ := info_parts Tryd.info36
  have HE : Hid (wordE s v = 0) := by show _ = _; rw [wordE_cn h1, if_neg (by rintro ⟨e, _⟩; exact e h2), if_neg (by rintro ⟨e1, e2⟩; exact h4 e1 e2)]
  have HS : Hid (wordS s v = ⟨s.steps ++ [(s.del, s.cl)], false, []⟩) := by
    show _ = _
    unfold wordS
    rw [if_neg (cn_word h1).1, cn_del h1, if_neg (by simp), if_neg (by simpa using h2)]
  have he := str_e v (cn_word h1).1
  have hd := str_d v (cn_word h1).2
  have C : Hid (∀ x, Below w.heap.size w x → Calls Tryd.prog 25 #[.pointer (some ⟨R, 0, none⟩)] x fun e w' => e = .returned (.bool s.openB) ∧ w' = x) := fun x hx => open_any R x s vs vc cells (h.below hx) (by omega)
  have K := clauseNumber_any v w hl
  rw [h1, h2] at K
  replace K := hide K
  obtain ⟨a, cap, rfl⟩ := Own.shape h.cur
  obtain ⟨sa, sc, rfl⟩ := owns_shape h.row
  have HF := rd_facts h
  have HR := hide h
  have hR := lt_of_block h.blk
  clear h h1 h2
  cases ho : s.openB
  all_goals
    rw [ho] at C
    have hm : s.openB = false → ((s.steps.length : Int) == 262144) = false := fun e => beq_no (by have := h4 e; omega)
    have hm' := hm
    clear hm
    first
      | (have hm := hm' ho; clear hm')
      | clear hm'
    clear ho h4
    go_enter Tryd.func24, Tryd.ntmps24
    go_wp2_with (first
      | (go_at_call 25; refine (unhide C _ hb1).mono ?_; rintro e w0 ⟨rfl, hw0⟩; subst w0)
      | (go_at_call 35; refine (unhide K).mono ?_; rintro e w1 ⟨rfl, hb1⟩; obtain ⟨f0, f1, f2, g0, g1, g2, hR1⟩ := HF.out _ hb1; have HR1 := hide (HR.out.below hb1)))
    have hrow : ∀ n o, ((w1.drewN n).alloc o).ownsRow (R + 1) 36 2 (.slice sa s.steps.length sc) s.steps.length cells := fun n o => (HR1.out.drewN n).row.alloc o
    have hfa : ∀ n o i, ((w1.drewN n).alloc o).cell? ⟨R, i, none⟩ = w1.cell? ⟨R, i, none⟩ := fun n o i => (below_alloc (w1.drewN n) o).cell (p := ⟨R, i, none⟩) hR1
    have hfb : ∀ n o i, ((w1.drewN n).alloc o).frozen? ⟨R, i, none⟩ = w1.frozen? ⟨R, i, none⟩ := fun n o i => (below_alloc (w1.drewN n) o).frozen (p := ⟨R, i, none⟩) hR1
    go_region_law (first
      | (refine step_append_lies _ (by rfl) (.tmp 26) (.tmp 31) 23 (by rfl) (R + 1) 36 i0 (.agg #[.bool false, .slice none 0 0]) 2 32 Tryd.underlying23 hi hz0 hz1 hz2 rfl (by decide) (.slice sa s.steps.length sc) s.steps.length cells (by rfl) (hrow _ _) ⟨w1.heap.size, 0, none⟩ 1 1 [.bool s.del, .slice a s.cl.length cap] (by rfl) (by rfl) (World.news_of_block (cs := #[.bool s.del, .slice a s.cl.length cap]) (t := 36) (fr := (0, 0)) (heap_alloc_new (w1.drewN _) _)) (by simp [Value.oneCell']) (by decide) (by unfold maxLen; omega) (by omega) (by simp; omega) (w1.heap.size + 1) (by simp) ?_; intro g3 cap3 w3 hown3 hgrow3 hat3 hlt3; obtain ⟨q1, q2, q3, q4, q5⟩ := Rd.zero (HR1.out.drewN _) hgrow3 hown3; obtain ⟨u0, u1, u2, u3, u4, u5⟩ := rd_cells q1; obtain ⟨x0, x1, x2, x3, x4, x5⟩ := rd_cells q2; obtain ⟨y0, y1, y2, y3, y4, y5⟩ := rd_cells q3))
    all_goals
      clear hown3 hgrow3 hat3 hlt3 q1 q2 q3 hfa hfb hrow
      go_wp2
      go_ret
      exact ⟨by rw [HE.out]; rfl, (hb1.mono (by omega)).trans (below_undrew q5), fun _ => ⟨_, _, _, by rw [HS.out]; exact q4⟩⟩

/-- A word is read. -/
theorem readWord_any (R : Nat) (w : World) (s : Rs) (vs vc : Value) (cells : List Value) (v : List UInt8) (h : Rd R w s vs vc cells) (hl : v.length ≤ maxLen) (h3 : s.cl.length ≤ 4096) (h5 : s.steps.length ≤ 262144) :
    Calls Tryd.prog 24 #[.pointer (some ⟨R, 0, none⟩), .string (str v)] w (Left R w s v) := by
  by_cases hv : v = []
  · subst hv; exact readWord_nil R w s vs vc cells h
  cases h1 : cnB v with
  | false =>
    cases h2 : delB s v with
    | false => exact readWord_err R w s vs vc cells v h h3 hl hv h1 h2
    | true => exact readWord_del R w s vs vc cells v h h3 h5 h2
  | true =>
    by_cases hm : s.openB = false ∧ s.steps.length = 262144
    · exact readWord_many R w s vs vc cells v h hl h1 hm.1 hm.2
    · have hm' : s.openB = false → s.steps.length ≠ 262144 := fun e e2 => hm ⟨e, e2⟩
      by_cases h2 : cnV v = 0
      · exact readWord_zero R w s vs vc cells v h hl h1 h2 h3 hm' h5
      · by_cases h4 : s.cl.length = 4096
        · exact readWord_wide R w s vs vc cells v h hl h1 h2 h4
        · exact readWord_lit R w s vs vc cells v h hl h1 h2 (by omega) hm' h5

end Go.Proofs.YtgklollpajhmlaaDoor
