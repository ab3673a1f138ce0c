/- What was read so far of a proof, as it lies in memory; contracts: whether a step has begun; a word is read. -/
import Derived.Test.YtgklollpajhmlaaDoorWalkC
import Derived.Maps.AppendAt
import Derived.Deep.AppendLies
set_option linter.unusedVariables false
set_option linter.unusedSimpArgs false
namespace Go.Proofs.YtgklollpajhmlaaDoor
open Go.RowKit Go.Maps

attribute [local go_sem ↓] Go.wp_at_zero Go.wp_at_succ

theorem Tryd.info36 : (Tryd.prog.info? 36).map (fun i => (i.zero, i.size, i.bytes)) = some (some (.agg #[.bool false, .slice none 0 0]), 2, 32) := by kernel_rfl

/-- Two slices lie apart. -/
def Ap (u v : Value) : Prop := u.ownBlock = none ∨ u.ownBlock ≠ v.ownBlock

theorem ap_nil (u : Value) : Ap u (.slice none 0 0) := by
  unfold Ap
  by_cases e : u.ownBlock = none
  · exact .inl e
  · exact .inr e

/-- What was read so far. -/
structure Rd (R : Nat) (w : World) (s : Rs) (vs vc : Value) (cells : List Value) : Prop where
  blk : w.heap[R]? = some (.cells #[vs, .bool s.del, vc] 44 (0, 0))
  row : w.ownsRow (R + 1) 36 2 vs s.steps.length cells
  each : ∀ i (h : i < s.steps.length), ∃ u, cells[i * 2]? = some (.bool s.steps[i].1) ∧ cells[i * 2 + 1]? = some u ∧ Own (R + 1) w u s.steps[i].2 ∧ Ap u vc
  cur : Own (R + 1) w vc s.cl

theorem hd_set {w : World} {B i : Nat} {cs : Array Value} {v : Value} {t : TypeId} (h : w.heap[B]? = some (.cells cs t (0, 0))) : (w.setCell ⟨B, i, none⟩ v).heap[B]? = some (.cells (cs.setIfInBounds i v) t (0, 0)) := by
  have hlt := lt_of_block h
  have h' : w.heap[B] = .cells cs t (0, 0) := by simpa [Array.getElem?_eq_getElem hlt] using h
  show (w.heap.modify B _)[B]? = _
  rw [Array.getElem?_eq_getElem (by simpa using hlt), Array.getElem_modify_self, h']
  rfl

theorem set_other {w : World} {B k : Nat} {i : Nat} {v : Value} (h : k ≠ B) : (w.setCell ⟨B, i, none⟩ v).heap[k]? = w.heap[k]? := Below.heap_setCell _ _ _ _ h

theorem rd_cells {w : World} {R : Nat} {a b c : Value} {t : TypeId} (h : w.heap[R]? = some (.cells #[a, b, c] t (0, 0))) :
    w.cell? ⟨R, 0, none⟩ = some a ∧ w.cell? ⟨R, 1, none⟩ = some b ∧ w.cell? ⟨R, 2, none⟩ = some c ∧ w.frozen? ⟨R, 0, none⟩ = false ∧ w.frozen? ⟨R, 1, none⟩ = false ∧ w.frozen? ⟨R, 2, none⟩ = false := by
  refine ⟨?_, ?_, ?_, ?_, ?_, ?_⟩ <;> simp [World.cell?, World.frozen?, h]

theorem own_block {base : Nat} {w : World} {e : TypeId} {s : Nat} {v : Value} {n : Nat} {vs : List Value} (h : w.ownsRow base e s v n vs) {g : Nat} (hg : v.ownBlock = some g) : ∃ cur, w.heap[g]? = some (.cells cur e (0, 0)) := by
  rcases h.2 with ⟨rfl, _⟩ | ⟨g', cap, cur, rfl, _, hh, _⟩
  · simp [Value.ownBlock] at hg
  · simp [Value.ownBlock] at hg; subst hg; exact ⟨cur, hh⟩

theorem own_apart {base base' : Nat} {w : World} {u v : Value} {e e' : TypeId} {s s' n n' : Nat} {us vs : List Value} (h : w.ownsRow base e s u n us) (g : w.ownsRow base' e' s' v n' vs) (hne : e ≠ e') : u.ownBlock = Option.none ∨ u.ownBlock ≠ v.ownBlock := by
  cases hu : u.ownBlock with
  | none => exact .inl rfl
  | some k =>
    right
    intro e
    obtain ⟨c1, e1⟩ := own_block h hu
    obtain ⟨c2, e2⟩ := own_block g e.symm
    rw [e1] at e2
    simp at e2
    exact hne e2.2

theorem own_ne {e : TypeId} {s R : Nat} {w : World} {v : Value} {n : Nat} {vs : List Value} (h : w.ownsRow (R + 1) e s v n vs) : v.ownBlock ≠ some R := by
  intro e
  have := (h.lt R e).1
  omega

theorem owns_below {base : Nat} {w w' : World} {e : TypeId} {s : Nat} {v : Value} {n : Nat} {vs : List Value} (h : w.ownsRow base e s v n vs) (hb : Below w.heap.size w w') : w'.ownsRow base e s v n vs :=
  World.ownsRow.kept h (row := none) ⟨hb.os, hb.tape, hb.output, hb.size, fun k hk _ => hb.block k hk⟩ (by cases v.ownBlock <;> simp)

theorem Rd.drewN {R : Nat} {w : World} {s : Rs} {vs vc : Value} {cells : List Value} (h : Rd R w s vs vc cells) (n : Nat) : Rd R (w.drewN n) s vs vc cells := ⟨h.blk, h.row, h.each, h.cur⟩

theorem Rd.below {R : Nat} {w w' : World} {s : Rs} {vs vc : Value} {cells : List Value} (h : Rd R w s vs vc cells) (hb : Below w.heap.size w w') : Rd R w' s vs vc cells := by
  refine ⟨by rw [hb.block R (lt_of_block h.blk)]; exact h.blk, owns_below h.row hb, fun i hi => ?_, h.cur.below hb⟩
  obtain ⟨u, h1, h2, h3, h4⟩ := h.each i hi
  exact ⟨u, h1, h2, h3.below hb, h4⟩

theorem below_undrew {B n : Nat} {w w' : World} (h : Below B (w.drewN n) w') : Below B w w' := ⟨h.os, h.tape, h.output, h.size, h.block⟩
theorem below_drewN {B n : Nat} {w w' : World} (h : Below B w w') : Below B w (w'.drewN n) := ⟨h.os, h.tape, h.output, h.size, h.block⟩

/-- The sign is set. -/
theorem Rd.del1 {R : Nat} {w : World} {s : Rs} {vs vc : Value} {cells : List Value} (h : Rd R w s vs vc cells) : Rd R (w.setCell ⟨R, 1, none⟩ (.bool true)) ⟨s.steps, true, s.cl⟩ vs vc cells ∧ Below R w (w.setCell ⟨R, 1, none⟩ (.bool true)) := by
  have hc : vc.ownBlock ≠ some R := own_ne h.cur
  refine ⟨⟨hd_set h.blk, ownsRow_setCell_other h.row (own_ne h.row) _, fun i hi => ?_, ownsRow_setCell_other h.cur hc _⟩, Below.setCell (p := ⟨R, 1, none⟩) (Below.refl _ _) (Nat.le_refl R) _⟩
  obtain ⟨u, h1, h2, h3, h4⟩ := h.each i hi
  have hu : u.ownBlock ≠ some R := own_ne h3
  exact ⟨u, h1, h2, ownsRow_setCell_other h3 hu _, h4⟩

/-- A literal is put behind the clause. -/
theorem Rd.lit {R : Nat} {w w2 : World} {s : Rs} {vs vc v' : Value} {cells : List Value} {o : Obj} {x : Int} (h : Rd R w s vs vc cells)
    (hg : (w.alloc o).grownBy w2 vc.ownBlock) (ho : w2.ownsRow (R + 1) 3 1 v' (s.cl.length + 1) (s.cl.map (Value.int .i64) ++ [.int .i64 x])) (hat : v'.ownBlock = vc.ownBlock ∨ v'.ownBlock = some (w.alloc o).heap.size) :
    w2.heap[R]? = some (.cells #[vs, .bool s.del, vc] 44 (0, 0)) ∧
    Rd R (w2.setCell ⟨R, 2, none⟩ v') ⟨s.steps, s.del, s.cl ++ [x]⟩ vs v' cells ∧ Below R w (w2.setCell ⟨R, 2, none⟩ v') := by
  have hRlt := lt_of_block h.blk
  have hR1 : R < (w.alloc o).heap.size := by rw [size_alloc]; omega
  have hnc := own_ne h.cur
  have hblk : w2.heap[R]? = some (.cells #[vs, .bool s.del, vc] 44 (0, 0)) := by
    rw [hg.block R hR1 (fun e => hnc e.symm), (below_alloc w o).block R hRlt]; exact h.blk
  have hv'R := own_ne ho
  refine ⟨hblk, ⟨hd_set hblk, ?_, ?_, ?_⟩, ?_⟩
  · exact ownsRow_setCell_other ((h.row.alloc o).kept hg (by
      rcases own_apart h.cur h.row (by decide) with e | e
      · by_cases e' : vs.ownBlock = none
        · exact .inl e'
        · exact .inr (by rw [e]; exact e')
      · exact .inr (fun k => e k.symm))) (own_ne h.row) _
  · intro i hi
    obtain ⟨u, e0, e, hu, hp⟩ := h.each i hi
    have hun : u.ownBlock ≠ some R := own_ne hu
    refine ⟨u, e0, e, ownsRow_setCell_other ((World.ownsRow.alloc hu o).kept hg hp) hun _, ?_⟩
    rcases hat with e1 | e1
    · unfold Ap; rw [e1]; exact hp
    · right
      intro e2
      rw [e1] at e2
      have := (hu.lt _ e2).2
      rw [size_alloc] at this
      omega
  · exact own_snoc (ownsRow_setCell_other ho hv'R _) rfl
  · refine Below.setCell (((below_alloc w o).mono (Nat.le_of_lt hRlt)).grown hg (Nat.le_of_lt hR1) (fun k hk => ?_)) (Nat.le_refl _) _
    have := (h.cur.lt k hk).1
    omega

/-- The step is put behind the steps. -/
theorem Rd.zero {R : Nat} {w w2 : World} {s : Rs} {vs vc v' : Value} {cells : List Value} {o : Obj} (h : Rd R w s vs vc cells)
    (hg : (w.alloc o).grownBy w2 vs.ownBlock) (ho : w2.ownsRow (R + 1) 36 2 v' (s.steps.length + 1) (cells ++ [.bool s.del, vc])) :
    w2.heap[R]? = some (.cells #[vs, .bool s.del, vc] 44 (0, 0)) ∧
    (w2.setCell ⟨R, 0, none⟩ v').heap[R]? = some (.cells #[v', .bool s.del, vc] 44 (0, 0)) ∧
    ((w2.setCell ⟨R, 0, none⟩ v').setCell ⟨R, 1, none⟩ (.bool false)).heap[R]? = some (.cells #[v', .bool false, vc] 44 (0, 0)) ∧
    Rd R (((w2.setCell ⟨R, 0, none⟩ v').setCell ⟨R, 1, none⟩ (.bool false)).setCell ⟨R, 2, none⟩ (.slice none 0 0)) ⟨s.steps ++ [(s.del, s.cl)], false, []⟩ v' (.slice none 0 0) (cells ++ [.bool s.del, vc]) ∧
    Below R w (((w2.setCell ⟨R, 0, none⟩ v').setCell ⟨R, 1, none⟩ (.bool false)).setCell ⟨R, 2, none⟩ (.slice none 0 0)) := by
  have hRlt := lt_of_block h.blk
  have hR1 : R < (w.alloc o).heap.size := by rw [size_alloc]; omega
  have hnc := own_ne h.row
  have hblk : w2.heap[R]? = some (.cells #[vs, .bool s.del, vc] 44 (0, 0)) := by
    rw [hg.block R hR1 (fun e => hnc e.symm), (below_alloc w o).block R hRlt]; exact h.blk
  have hblk1 : (w2.setCell ⟨R, 0, none⟩ v').heap[R]? = some (.cells #[v', .bool s.del, vc] 44 (0, 0)) := hd_set hblk
  have hblk2 : ((w2.setCell ⟨R, 0, none⟩ v').setCell ⟨R, 1, none⟩ (.bool false)).heap[R]? = some (.cells #[v', .bool false, vc] 44 (0, 0)) := hd_set hblk1
  have hv'R := own_ne ho
  have hvl : cells.length = s.steps.length * 2 := h.row.1
  have hold : ∀ {u : Value} {c : List Int}, Own (R + 1) w u c → Own (R + 1) (((w2.setCell ⟨R, 0, none⟩ v').setCell ⟨R, 1, none⟩ (.bool false)).setCell ⟨R, 2, none⟩ (.slice none 0 0)) u c := by
    intro u c hu
    have hun : u.ownBlock ≠ some R := own_ne hu
    exact ownsRow_setCell_other (ownsRow_setCell_other (ownsRow_setCell_other ((World.ownsRow.alloc hu o).kept hg (own_apart hu h.row (by decide))) hun _) hun _) hun _
  refine ⟨hblk, hblk1, hblk2, ⟨hd_set hblk2, ?_, ?_, World.ownsRow_nil _ _ _ _⟩, ?_⟩
  · have := ownsRow_setCell_other (ownsRow_setCell_other (ownsRow_setCell_other ho hv'R v' (a := ⟨R, 0, none⟩)) hv'R (.bool false) (a := ⟨R, 1, none⟩)) hv'R (.slice none 0 0) (a := ⟨R, 2, none⟩)
    simpa using this
  · intro i hi
    simp only [List.length_append, List.length_cons, List.length_nil] at hi
    rcases Nat.lt_or_ge i s.steps.length with h1 | h1
    · obtain ⟨u, e0, e, hu, hp⟩ := h.each i h1
      refine ⟨u, ?_, ?_, ?_, ap_nil u⟩
      · simp only [List.getElem_append_left h1]; rw [List.getElem?_append_left (by omega)]; exact e0
      · rw [List.getElem?_append_left (by omega)]; exact e
      · simp only [List.getElem_append_left h1]; exact hold hu
    · have e : i = s.steps.length := by omega
      subst e
      refine ⟨vc, ?_, ?_, ?_, ap_nil vc⟩
      · simp only [List.getElem_append_right (Nat.le_refl _), Nat.sub_self, List.getElem_cons_zero]
        rw [List.getElem?_append_right (by omega), hvl]; simp
      · rw [List.getElem?_append_right (by omega), hvl, show s.steps.length * 2 + 1 - s.steps.length * 2 = 1 by omega]; rfl
      · simp only [List.getElem_append_right (Nat.le_refl _), Nat.sub_self, List.getElem_cons_zero]; exact hold h.cur
  · refine Below.setCell (Below.setCell (Below.setCell (((below_alloc w o).mono (Nat.le_of_lt hRlt)).grown hg (Nat.le_of_lt hR1) (fun k hk => ?_)) (Nat.le_refl _) _) (Nat.le_refl _) _) (Nat.le_refl _) _
    have := (h.row.lt k hk).1
    omega

theorem Own.shape {base : Nat} {w : World} {v : Value} {xs : List Int} (h : Own base w v xs) : ∃ a cap, v = .slice a xs.length cap := by
  obtain ⟨a, cap, e, _⟩ := h.row
  exact ⟨a, cap, e⟩

theorem owns_shape {base n s : Nat} {w : World} {v : Value} {vs : List Value} {e : TypeId} (h : w.ownsRow base e s v n vs) : ∃ a cap, v = .slice a n cap := by
  rcases h.2 with ⟨rfl, h0⟩ | ⟨g, cap, cur, rfl, _⟩
  · exact ⟨none, 0, by rw [h0]⟩
  · exact ⟨_, _, rfl⟩

set_option maxHeartbeats 400000 in
theorem open_any (R : Nat) (w : World) (s : Rs) (vs vc : Value) (cells : List Value) (h : Rd R w s vs vc cells) (hl : s.cl.length ≤ 4096) :
    Calls Tryd.prog 25 #[.pointer (some ⟨R, 0, none⟩)] w fun e w' => e = .returned (.bool s.openB) ∧ w' = w := by
  obtain ⟨a, cap, rfl⟩ := Own.shape h.cur
  obtain ⟨f0, f1, f2, g0, g1, g2⟩ := rd_cells h.blk
  have HO : Hid (s.openB = (s.del || decide (0 < s.cl.length))) := rfl
  clear h
  generalize s.cl.length = n at *
  by_cases hn : (0 : Int) < n
  all_goals
    cases hd : s.del
    all_goals
      rw [hd] at f1
      have HD := hide hd
      clear hd
      go_enter Tryd.func25, Tryd.ntmps25
      go_wp2
      go_ret
      exact ⟨ret_bool (by rw [HO.out, HD.out]; simp; try omega), rfl⟩


theorem str_d (v : List UInt8) (h : v ≠ [100]) : ((str v).toList == [100]) = false := by rw [str_toList]; simpa using h
theorem str_e (v : List UInt8) (h : v ≠ []) : ((str v).toList == []) = false := by rw [str_toList]; simpa using h

/-- What a word leaves. -/
def Left (R : Nat) (w : World) (s : Rs) (v : List UInt8) (e : Ending) (w' : World) : Prop :=
  e = .returned (.int .i64 (wordE s v)) ∧ Below R w w' ∧ (wordE s v = 0 → ∃ vs' vc' cells', Rd R w' (wordS s v) vs' vc' cells')

set_option maxHeartbeats 1000000 in
theorem readWord_nil (R : Nat) (w : World) (s : Rs) (vs vc : Value) (cells : List Value) (h : Rd R w s vs vc cells) :
    Calls Tryd.prog 24 #[.pointer (some ⟨R, 0, none⟩), .string (str [])] w (Left R w s []) := by
  have hst := str_toList []
  have H := hide h
  clear h
  go_enter Tryd.func24, Tryd.ntmps24
  go_wp2
  go_ret
  exact ⟨by rw [wordE_nil]; rfl, Below.refl _ _, fun _ => ⟨_, _, _, by rw [wordS_nil]; exact H.out⟩⟩

set_option maxHeartbeats 2000000 in
theorem readWord_err (R : Nat) (w : World) (s : Rs) (vs vc : Value) (cells : List Value) (v : List UInt8) (h : Rd R w s vs vc cells) (hcl : s.cl.length ≤ 4096) (hl : v.length ≤ maxLen) (hv : v ≠ [])
    (h1 : cnB v = false) (h2 : delB s v = false) :
    Calls Tryd.prog 24 #[.pointer (some ⟨R, 0, none⟩), .string (str v)] w (Left R w s v) := by
  have HE : Hid (wordE s v = 2) := by show _ = _; unfold wordE; rw [if_neg hv, if_pos ⟨h1, h2⟩]
  have C := hide (open_any R w s vs vc cells h hcl)
  have K := clauseNumber_any v w hl
  rw [h1, cnV_no h1] at K
  replace K := hide K
  have hR := lt_of_block h.blk
  have he := str_e v hv
  by_cases hd : v = [100]
  · subst hd
    have ho : s.openB = true := by unfold delB at h2; simpa using h2
    rw [ho] at C
    have hst := str_toList [100]
    clear h ho h1 h2 hv
    go_enter Tryd.func24, Tryd.ntmps24
    go_wp2_with (first
      | (go_at_call 25; refine (unhide C).mono ?_; rintro e w0 ⟨rfl, hw0⟩; subst w0)
      | (go_at_call 35; refine (unhide K).mono ?_; rintro e w1 ⟨rfl, hb1⟩))
    go_ret
    exact ⟨by rw [HE.out]; rfl, hb1.mono (by omega), fun e => by rw [HE.out] at e; cases e⟩
  · have hd' := str_d v hd
    clear h h1 h2 hv hd
    go_enter Tryd.func24, Tryd.ntmps24
    go_wp2_with (first
      | (go_at_call 25; refine (unhide C).mono ?_; rintro e w0 ⟨rfl, hw0⟩; subst w0)
      | (go_at_call 35; refine (unhide K).mono ?_; rintro e w1 ⟨rfl, hb1⟩))
    go_ret
    exact ⟨by rw [HE.out]; rfl, hb1.mono (by omega), fun e => by rw [HE.out] at e; cases e⟩


theorem beq_no {a b : Int} (h : a ≠ b) : (a == b) = false := by simpa using h

set_option maxHeartbeats 2000000 in
theorem readWord_del (R : Nat) (w : World) (s : Rs) (vs vc : Value) (cells : List Value) (v : List UInt8) (h : Rd R w s vs vc cells) (hcl : s.cl.length ≤ 4096) (hst : s.steps.length ≤ 262144)
    (h2 : delB s v = true) :
    Calls Tryd.prog 24 #[.pointer (some ⟨R, 0, none⟩), .string (str v)] w (Left R w s v) := by
  obtain ⟨rfl, ho⟩ := delB_word h2
  have h1 := delB_cn h2
  have C : Hid (∀ x, Below w.heap.size w x → Calls Tryd.prog 25 #[.pointer (some ⟨R, 0, none⟩)] x fun e w' => e = .returned (.bool false) ∧ w' = x) := fun x hx => by
    have := open_any R x s vs vc cells (h.below hx) hcl
    rw [ho] at this
    exact this
  have C0 := hide (C.out w (Below.refl _ _))
  have K := clauseNumber_any [100] w (by simp [maxLen])
  rw [h1, cnV_no h1] at K
  replace K := hide K
  have hR := lt_of_block h.blk
  have he := str_e [100] (by simp)
  have hsd := str_toList [100]
  obtain ⟨sa, sc, rfl⟩ := owns_shape h.row
  have HR := hide h
  by_cases hm : s.steps.length = 262144
  · have HE : Hid (wordE s [100] = 3) := by
      show _ = _
      unfold wordE
      rw [if_neg (by simp), if_neg (by rintro ⟨_, e⟩; rw [h2] at e; cases e), if_neg (by rw [cnV_no h1]; simp), if_pos ⟨ho, hm⟩]
    have hf : ∀ x, Below w.heap.size w x → x.cell? ⟨R, 0, none⟩ = some (.slice sa s.steps.length sc) := fun x hx => (rd_cells (HR.out.below hx).blk).1
    have HF := hide hf
    clear hf h h1 h2 ho
    rw [hm] at HF
    clear hm
    go_enter Tryd.func24, Tryd.ntmps24
    go_wp2_with (first
      | (go_at_call 25; first | (refine (unhide C0).mono ?_; rintro e w0 ⟨rfl, hw0⟩; subst w0) | (refine (unhide C _ hb1).mono ?_; rintro e w0 ⟨rfl, hw0⟩; subst w0))
      | (go_at_call 35; refine (unhide K).mono ?_; rintro e w1 ⟨rfl, hb1⟩; have f0 := HF.out _ hb1; have hR1 := Nat.lt_of_lt_of_le hR hb1.size))
    go_ret
    exact ⟨by rw [HE.out]; rfl, hb1.mono (by omega), fun e => by rw [HE.out] at e; cases e⟩
  · have HE : Hid (wordE s [100] = 0) := by
      show _ = _
      unfold wordE
      rw [if_neg (by simp), if_neg (by rintro ⟨_, e⟩; rw [h2] at e; cases e), if_neg (by rw [cnV_no h1]; simp), if_neg (by rintro ⟨_, e⟩; exact hm e)]
    have HS : Hid (wordS s [100] = ⟨s.steps, true, s.cl⟩) := by
      show _ = _
      unfold wordS
      rw [if_neg (by simp), if_pos h2]
    have hf : ∀ x, Below w.heap.size w x → x.cell? ⟨R, 0, none⟩ = some (.slice sa s.steps.length sc) ∧ x.cell? ⟨R, 1, none⟩ = some (.bool s.del) ∧ x.frozen? ⟨R, 1, none⟩ = false := fun x hx => by
      obtain ⟨f0, f1, f2, g0, g1, g2⟩ := rd_cells (HR.out.below hx).blk
      exact ⟨f0, f1, g1⟩
    have HF := hide hf
    have hm' : ((s.steps.length : Int) == 262144) = false := beq_no (by omega)
    clear hf h h1 h2 ho hm
    go_enter Tryd.func24, Tryd.ntmps24
    go_wp2_with (first
      | (go_at_call 25; first | (refine (unhide C0).mono ?_; rintro e w0 ⟨rfl, hw0⟩; subst w0) | (refine (unhide C _ hb1).mono ?_; rintro e w0 ⟨rfl, hw0⟩; subst w0))
      | (go_at_call 35; refine (unhide K).mono ?_; rintro e w1 ⟨rfl, hb1⟩; obtain ⟨f0, f1, g1⟩ := HF.out _ hb1; have hR1 := Nat.lt_of_lt_of_le hR hb1.size))
    go_ret
    have hd := (HR.out.below hb1).del1
    exact ⟨by rw [HE.out]; rfl, (hb1.mono (by omega)).trans hd.2, fun _ => ⟨_, _, _, by rw [HS.out]; exact hd.1⟩⟩

end Go.Proofs.YtgklollpajhmlaaDoor
