/- What was read so far, as it lies in memory; contract: a word behind the head. -/
import Derived.Test.YtedpngipkaniaaaDoorWalkS
import Derived.Test.YtedpngipkaniaaaDoorWalkP
import Derived.Maps.AppendAt
import Derived.Deep.AppendLies
set_option linter.unusedVariables false
set_option linter.unusedSimpArgs false
namespace Go.Proofs.YtedpngipkaniaaaDoor
open Go.RowKit Go.Maps

attribute [local go_sem ↓] Go.wp_at_zero Go.wp_at_succ

/-- A slice's block is none of these. -/
def Av (S : Nat → Prop) (u : Value) : Prop := ∀ k, u.ownBlock = some k → ¬ S k
/-- Two slices lie apart. -/
def Ap (u v : Value) : Prop := u.ownBlock = none ∨ u.ownBlock ≠ v.ownBlock

/-- What was read so far. -/
structure Rd (S : Nat → Prop) (R : Nat) (w : World) (s : St) (vcs vc : Value) (vs : List Value) : Prop where
  blk : w.heap[R]? = some (.cells #[.bool s.headed, .int .i64 s.vars, .int .i64 s.count, vcs, vc] 43 (0, 0))
  row : w.ownsRow (R + 1) 35 1 vcs s.cls.length vs
  each : ∀ i (h : i < s.cls.length), ∃ u, vs[i]? = some u ∧ Own (R + 1) w u s.cls[i] ∧ Av S u ∧ Ap u vc
  cur : Own (R + 1) w vc s.cl
  avr : Av S vcs
  avc : Av S vc
  fresh : s.headed = false → vcs = .slice none 0 0 ∧ vc = .slice none 0 0

/-- What stays while something is read: all that is older, and these blocks. -/
structure Kept (S : Nat → Prop) (R : Nat) (w w' : World) : Prop where
  bel : Below R w w'
  kept : ∀ k, S k → w'.heap[k]? = w.heap[k]?

theorem hd_set {w : World} {B i : Nat} {cs : Array Value} {v : Value} {t : TypeId} (h : w.heap[B]? = some (.cells cs t (0, 0))) : (w.setCell ⟨B, i, none⟩ v).heap[B]? = some (.cells (cs.setIfInBounds i v) t (0, 0)) := by
  have hlt := lt_of_block h
  have h' : w.heap[B] = .cells cs t (0, 0) := by simpa [Array.getElem?_eq_getElem hlt] using h
  show (w.heap.modify B _)[B]? = _
  rw [Array.getElem?_eq_getElem (by simpa using hlt), Array.getElem_modify_self, h']
  rfl

theorem set_other {w : World} {B k : Nat} {i : Nat} {v : Value} (h : k ≠ B) : (w.setCell ⟨B, i, none⟩ v).heap[k]? = w.heap[k]? := Below.heap_setCell _ _ _ _ h

theorem rd_cells {w : World} {R : Nat} {a b c d e : Value} {t : TypeId} (h : w.heap[R]? = some (.cells #[a, b, c, d, e] t (0, 0))) :
    w.cell? ⟨R, 0, none⟩ = some a ∧ w.cell? ⟨R, 1, none⟩ = some b ∧ w.cell? ⟨R, 2, none⟩ = some c ∧ w.cell? ⟨R, 3, none⟩ = some d ∧ w.cell? ⟨R, 4, none⟩ = some e ∧
    w.frozen? ⟨R, 0, none⟩ = false ∧ w.frozen? ⟨R, 1, none⟩ = false ∧ w.frozen? ⟨R, 2, none⟩ = false ∧ w.frozen? ⟨R, 3, none⟩ = false ∧ w.frozen? ⟨R, 4, none⟩ = false := by
  refine ⟨?_, ?_, ?_, ?_, ?_, ?_, ?_, ?_, ?_, ?_⟩ <;> simp [World.cell?, World.frozen?, h]

theorem own_ne {e : TypeId} {R : Nat} {w : World} {v : Value} {n : Nat} {vs : List Value} (h : w.ownsRow (R + 1) e 1 v n vs) : v.ownBlock ≠ some R := by
  intro e
  have := (h.lt R e).1
  omega

theorem Rd.drewN {S : Nat → Prop} {R : Nat} {w : World} {s : St} {vcs vc : Value} {vs : List Value} (h : Rd S R w s vcs vc vs) (n : Nat) : Rd S R (w.drewN n) s vcs vc vs :=
  ⟨h.blk, h.row, h.each, h.cur, h.avr, h.avc, h.fresh⟩

theorem Kept.undrew {S : Nat → Prop} {R n : Nat} {w w' : World} (h : Kept S R (w.drewN n) w') : Kept S R w w' := ⟨⟨h.bel.os, h.bel.tape, h.bel.output, h.bel.size, h.bel.block⟩, h.kept⟩

theorem alloc_kept {w : World} {o : Obj} : w.grownBy (w.alloc o) none := World.grownBy_alloc w o none

/-- A literal is put behind the clause. -/
theorem Rd.lit {S : Nat → Prop} {R : Nat} {w w2 : World} {s : St} {vcs vc v' : Value} {vs : List Value} {o : Obj} {x : Int} (h : Rd S R w s vcs vc vs) (hhd : s.headed = true) (hS : ∀ k, S k → k < w.heap.size ∧ k ≠ R)
    (hg : (w.alloc o).grownBy w2 vc.ownBlock) (ho : w2.ownsRow (R + 1) 3 1 v' (s.cl.length + 1) (s.cl.map (Value.int .i64) ++ [.int .i64 x])) (hat : v'.ownBlock = vc.ownBlock ∨ v'.ownBlock = some (w.alloc o).heap.size) :
    w2.heap[R]? = some (.cells #[.bool s.headed, .int .i64 s.vars, .int .i64 s.count, vcs, vc] 43 (0, 0)) ∧
    Rd S R (w2.setCell ⟨R, 4, none⟩ v') { s with cl := s.cl ++ [x] } vcs v' vs ∧ Kept S R w (w2.setCell ⟨R, 4, none⟩ v') := by
  have hRlt := lt_of_block h.blk
  have hR1 : R < (w.alloc o).heap.size := by rw [size_alloc]; omega
  have hnc := own_ne h.cur
  have hblk : w2.heap[R]? = some (.cells #[.bool s.headed, .int .i64 s.vars, .int .i64 s.count, vcs, vc] 43 (0, 0)) := by
    rw [hg.block R hR1 (fun e => hnc e.symm), (below_alloc w o).block R hRlt]; exact h.blk
  have hv'R := own_ne ho
  refine ⟨hblk, ⟨hd_set hblk, ?_, ?_, ?_, h.avr, ?_, fun e => absurd e (by simp [hhd])⟩, ⟨?_, ?_⟩⟩
  · exact ownsRow_setCell_other ((h.row.alloc o).kept hg (by
      rcases own_apart h.cur h.row with e | e
      · by_cases e' : vcs.ownBlock = none
        · exact .inl e'
        · exact .inr (by rw [e]; exact e')
      · exact .inr (fun k => e k.symm))) (own_ne h.row) _
  · intro i hi
    obtain ⟨u, e, hu, ha, hp⟩ := h.each i hi
    have hun : u.ownBlock ≠ some R := own_ne hu
    refine ⟨u, e, ownsRow_setCell_other ((World.ownsRow.alloc hu o).kept hg hp) hun _, ha, ?_⟩
    rcases hat with e1 | e1
    · unfold Ap; rw [e1]; exact hp
    · right
      intro e2
      rw [e1] at e2
      have := (hu.lt _ e2).2
      rw [size_alloc] at this
      omega
  · exact own_snoc (ownsRow_setCell_other ho hv'R _) rfl
  · intro k hk hs
    rcases hat with e1 | e1
    · exact h.avc k (e1 ▸ hk) hs
    · rw [e1] at hk
      have := (hS k hs).1
      simp at hk
      omega
  · refine Below.setCell (((below_alloc w o).mono (Nat.le_of_lt hRlt)).grown hg (Nat.le_of_lt hR1) (fun k hk => ?_)) (Nat.le_refl _) _
    have := (h.cur.lt k hk).1
    omega
  · intro k hs
    obtain ⟨h1, h2⟩ := hS k hs
    rw [set_other h2, hg.block k (by rw [size_alloc]; omega) (fun e => h.avc k e.symm hs), (below_alloc w o).block k h1]

/-- The clause is put behind the clauses. -/
theorem Rd.zero {S : Nat → Prop} {R : Nat} {w w2 : World} {s : St} {vcs vc v' : Value} {vs : List Value} {o : Obj} (h : Rd S R w s vcs vc vs) (hhd : s.headed = true) (hS : ∀ k, S k → k < w.heap.size ∧ k ≠ R)
    (hg : (w.alloc o).grownBy w2 vcs.ownBlock) (ho : w2.ownsRow (R + 1) 35 1 v' (s.cls.length + 1) (vs ++ [vc])) (hat : v'.ownBlock = vcs.ownBlock ∨ v'.ownBlock = some (w.alloc o).heap.size) :
    w2.heap[R]? = some (.cells #[.bool s.headed, .int .i64 s.vars, .int .i64 s.count, vcs, vc] 43 (0, 0)) ∧
    (w2.setCell ⟨R, 3, none⟩ v').heap[R]? = some (.cells #[.bool s.headed, .int .i64 s.vars, .int .i64 s.count, v', vc] 43 (0, 0)) ∧
    Rd S R ((w2.setCell ⟨R, 3, none⟩ v').setCell ⟨R, 4, none⟩ (.slice none 0 0)) { s with cls := s.cls ++ [s.cl], cl := [] } v' (.slice none 0 0) (vs ++ [vc]) ∧
    Kept S R w ((w2.setCell ⟨R, 3, none⟩ v').setCell ⟨R, 4, none⟩ (.slice none 0 0)) := by
  have hRlt := lt_of_block h.blk
  have hR1 : R < (w.alloc o).heap.size := by rw [size_alloc]; omega
  have hnc := own_ne h.row
  have hblk : w2.heap[R]? = some (.cells #[.bool s.headed, .int .i64 s.vars, .int .i64 s.count, vcs, vc] 43 (0, 0)) := by
    rw [hg.block R hR1 (fun e => hnc e.symm), (below_alloc w o).block R hRlt]; exact h.blk
  have hblk3 : (w2.setCell ⟨R, 3, none⟩ v').heap[R]? = some (.cells #[.bool s.headed, .int .i64 s.vars, .int .i64 s.count, v', vc] 43 (0, 0)) := hd_set hblk
  have hv'R := own_ne ho
  have hvl : vs.length = s.cls.length := by simpa using h.row.1
  have hold : ∀ {u : Value} {c : List Int}, Own (R + 1) w u c → Own (R + 1) ((w2.setCell ⟨R, 3, none⟩ v').setCell ⟨R, 4, none⟩ (.slice none 0 0)) u c := by
    intro u c hu
    have hun : u.ownBlock ≠ some R := own_ne hu
    exact ownsRow_setCell_other (ownsRow_setCell_other ((World.ownsRow.alloc hu o).kept hg (own_apart hu h.row)) hun _) hun _
  have hapn : ∀ u : Value, Ap u (.slice none 0 0) := by
    intro u
    unfold Ap
    by_cases e : u.ownBlock = none
    · exact .inl e
    · exact .inr e
  refine ⟨hblk, hblk3, ⟨hd_set hblk3, ?_, ?_, ?_, ?_, ?_, fun e => absurd e (by simp [hhd])⟩, ⟨?_, ?_⟩⟩
  · have := ownsRow_setCell_other (ownsRow_setCell_other ho hv'R v' (a := ⟨R, 3, none⟩)) hv'R (.slice none 0 0) (a := ⟨R, 4, none⟩)
    simpa using this
  · intro i hi
    simp only [List.length_append, List.length_cons, List.length_nil] at hi
    rcases Nat.lt_or_ge i s.cls.length with h1 | h1
    · obtain ⟨u, e, hu, ha, hp⟩ := h.each i h1
      refine ⟨u, by rw [List.getElem?_append_left (by omega)]; exact e, ?_, ha, hapn u⟩
      simp only [List.getElem_append_left h1]
      exact hold hu
    · have e : i = s.cls.length := by omega
      subst e
      refine ⟨vc, by rw [List.getElem?_append_right (by omega), hvl]; simp, ?_, h.avc, hapn vc⟩
      simp only [List.getElem_append_right (Nat.le_refl _), Nat.sub_self, List.getElem_cons_zero]
      exact hold h.cur
  · exact World.ownsRow_nil _ _ _ _
  · intro k hk hs
    rcases hat with e1 | e1
    · exact h.avr k (e1 ▸ hk) hs
    · rw [e1] at hk
      have := (hS k hs).1
      simp at hk
      omega
  · intro k hk
    simp [Value.ownBlock] at hk
  · refine Below.setCell (Below.setCell (((below_alloc w o).mono (Nat.le_of_lt hRlt)).grown hg (Nat.le_of_lt hR1) (fun k hk => ?_)) (Nat.le_refl _) _) (Nat.le_refl _) _
    have := (h.row.lt k hk).1
    omega
  · intro k hs
    obtain ⟨h1, h2⟩ := hS k hs
    rw [set_other h2, set_other h2, hg.block k (by rw [size_alloc]; omega) (fun e => h.avr k e.symm hs), (below_alloc w o).block k h1]

theorem Own.shape {base : Nat} {w : World} {v : Value} {xs : List Int} (h : Own base w v xs) : ∃ a cap, v = .slice a xs.length cap := by
  obtain ⟨a, cap, e, _⟩ := h.row
  exact ⟨a, cap, e⟩

theorem owns_shape {base n : Nat} {w : World} {v : Value} {vs : List Value} {e : TypeId} (h : w.ownsRow base e 1 v n vs) : ∃ a cap, v = .slice a n cap := by
  rcases h.2 with ⟨rfl, h0⟩ | ⟨g, cap, cur, rfl, _⟩
  · exact ⟨none, 0, by rw [h0]⟩
  · exact ⟨_, _, rfl⟩

theorem Tryd.info3' : (Tryd.prog.info? 3).map (fun i => (i.zero, i.size, i.bytes)) = some (some (.int .i64 0), 1, 8) := by kernel_rfl

theorem neg_max {n v : Int} (h1 : -v ≤ n) (h2 : n ≤ v) : ¬ v < max n (-n) := by omega

set_option maxHeartbeats 2000000 in
theorem readWord_lit (S : Nat → Prop) (R : Nat) (w : World) (s : St) (vcs vc : Value) (vs : List Value) (v : List UInt8) (h : Rd S R w s vcs vc vs) (hok : s.Ok) (hhd : s.headed = true) (hS : ∀ k, S k → k < w.heap.size ∧ k ≠ R) (hl : v.length ≤ maxLen)
    (h1 : numB v = true) (h2 : numV v ≠ 0) (h3 : -s.vars ≤ numV v) (h4 : numV v ≤ s.vars) (h5 : s.cl.length < 4096) (h6 : (s.cls.length : Int) < s.count) :
    Calls Tryd.prog 29 #[.pointer (some ⟨R, 0, none⟩), .string (str v)] w fun e w' => e = .returned (.int .i64 0) ∧ ∃ vc', Rd S R w' { s with cl := s.cl ++ [numV v] } vcs vc' vs ∧ Kept S R w w' := by
  obtain ⟨i0, hi, hz0, hz1, hz2⟩ := info_parts Tryd.info3
  have C := number_any v w hl
  rw [h1] at C
  replace C := hide C
  have hb := numV_bd v
  generalize numV v = n at *
  obtain ⟨ac, cc, rfl⟩ := owns_shape h.row
  obtain ⟨a, cap, hvc⟩ := Own.shape h.cur
  obtain ⟨f0, f1, f2, f3, f4, g0, g1, g2, g3, g4⟩ := rd_cells h.blk
  have hR := lt_of_block h.blk
  have hmx := neg_max h3 h4
  have hv0 := hok.vars0
  have hv1 := hok.vars1
  have hc1 := hok.count1
  have hne0 : (n != 0) = true := by simpa using h2
  have h5' : ((s.cl.length : Int) == 4096) = false := by rw [beq_eq_false_iff_ne]; omega
  have h6' : ((s.cls.length : Int) == s.count) = false := by rw [beq_eq_false_iff_ne]; omega
  have HR := hide h
  have hcur := h.cur
  rw [hvc] at f4 hcur
  clear h h1
  go_enter Tryd.func29, Tryd.ntmps29
  go_wp2_with (first | (go_at_call 38; refine (unhide C).mono ?_; rintro e w0 ⟨rfl, hw0⟩; subst w0))
  go_quiet (fail)
  go_wp2_with (at_builtin; refine wpList_append_own_at _ rfl _ _ 35 rfl (R + 1) 3 i0 (.int .i64 0) 1 8 Tryd.underlying35 hi hz0 hz1 hz2 rfl (by decide) _ _ _ rfl (hcur.alloc _) ⟨w.heap.size, 0, none⟩ 1 1 [.int .i64 n] rfl rfl (cell_one_new _ _ _) (fun x hx => by simp at hx; subst hx; rfl) (by unfold maxLen; omega) (by omega) (by simp; omega) ?_; intro v' w2 hown2 hgrow2 hnil hat2; obtain ⟨a', cap', rfl⟩ := owns_shape hown2; obtain ⟨q1, q2, q3⟩ := Rd.lit (HR.out.drewN _) hhd hS (by rw [hvc]; exact hgrow2) hown2 (by rw [hvc]; exact hat2); obtain ⟨u0, u1, u2, u3, u4, u5, u6, u7, u8, u9⟩ := rd_cells q1; clear hown2 hgrow2 hnil hat2 q1)
  go_ret
  exact ⟨rfl, _, q2, q3.undrew⟩

theorem at_of {v v' : Value} {g h n cap : Nat} (e : v' = .slice (some ⟨g, 0, none⟩) n cap) (ha : v.ownBlock = some g ∨ g = h) : v'.ownBlock = v.ownBlock ∨ v'.ownBlock = some h := by
  subst e
  rcases ha with e | e
  · left; rw [e]; rfl
  · right; subst e; rfl

theorem Own.one {base : Nat} {w : World} {v : Value} {xs : List Int} (h : Own base w v xs) : v.oneCell' = true := by
  obtain ⟨a, cap, rfl⟩ := h.shape
  rfl

set_option maxHeartbeats 4000000 in
theorem readWord_zero (S : Nat → Prop) (R : Nat) (w : World) (s : St) (vcs vc : Value) (vs : List Value) (v : List UInt8) (h : Rd S R w s vcs vc vs) (hok : s.Ok) (hhd : s.headed = true) (hS : ∀ k, S k → k < w.heap.size ∧ k ≠ R) (hl : v.length ≤ maxLen)
    (h1 : numB v = true) (h2 : numV v = 0) (h6 : (s.cls.length : Int) < s.count) :
    Calls Tryd.prog 29 #[.pointer (some ⟨R, 0, none⟩), .string (str v)] w fun e w' => e = .returned (.int .i64 0) ∧ ∃ vcs' vs', Rd S R w' { s with cls := s.cls ++ [s.cl], cl := [] } vcs' (.slice none 0 0) vs' ∧ Kept S R w w' := by
  obtain ⟨i0, hi, hz0, hz1, hz2⟩ := info_parts Tryd.info35
  have C := number_any v w hl
  rw [h1, h2] at C
  replace C := hide C
  obtain ⟨ac, cc, hvcs⟩ := owns_shape h.row
  obtain ⟨a, cap, hvc⟩ := Own.shape h.cur
  obtain ⟨f0, f1, f2, f3, f4, g0, g1, g2, g3, g4⟩ := rd_cells h.blk
  have hR := lt_of_block h.blk
  have hv0 := hok.vars0
  have hv1 := hok.vars1
  have hc1 := hok.count1
  have hcl := hok.cl
  have h6' : ((s.cls.length : Int) == s.count) = false := by rw [beq_eq_false_iff_ne]; omega
  have HR := hide h
  have HROW := hide h.row
  rw [hvc] at f4
  rw [hvcs] at f3
  have HVC := hide hvc
  have HVCS := hide hvcs
  have hone : (Value.slice a s.cl.length cap).oneCell' = true := rfl
  clear h h1 h2 hvc hvcs
  go_enter Tryd.func29, Tryd.ntmps29
  go_wp2_with (first | (go_at_call 38; refine (unhide C).mono ?_; rintro e w0 ⟨rfl, hw0⟩; subst w0))
  go_quiet (fail)
  go_wp2_with fail
  have hrow : ∀ n o, ((w.drewN n).alloc o).ownsRow (R + 1) 35 1 (.slice ac s.cls.length cc) s.cls.length vs := by
    intro n o
    rw [← HVCS.out]
    exact (HR.out.drewN n).row.alloc o
  have hfa : ∀ n o i, ((w.drewN n).alloc o).cell? ⟨R, i, none⟩ = w.cell? ⟨R, i, none⟩ := fun n o i => (below_alloc (w.drewN n) o).cell (p := ⟨R, i, none⟩) hR
  have hfb : ∀ n o i, ((w.drewN n).alloc o).frozen? ⟨R, i, none⟩ = w.frozen? ⟨R, i, none⟩ := fun n o i => (below_alloc (w.drewN n) o).frozen (p := ⟨R, i, none⟩) hR
  go_region_law (first
    | (refine step_append_lies _ (by rfl) (.tmp 16) (.tmp 21) 22 (by rfl) (R + 1) 35 i0 (.slice none 0 0) 1 24 Tryd.underlying22 hi hz0 hz1 hz2 rfl (by decide) (.slice ac s.cls.length cc) s.cls.length vs (by rfl) (hrow _ _) ⟨w.heap.size, 0, none⟩ 1 1 [.slice a s.cl.length cap] (by rfl) (by rfl) (World.news_of_block (cs := #[.slice a s.cl.length cap]) (t := 35) (fr := (0, 0)) (heap_alloc_new (w.drewN _) _)) (by simp [Value.oneCell']) (by decide) (by unfold maxLen; omega) (by omega) (by simp; omega) (w.heap.size + 1) (by simp) ?_; intro g3 cap3 w3 hown3 hgrow3 hat3 hlt3; obtain ⟨q1, q2, q3, q4⟩ := Rd.zero (HR.out.drewN _) hhd hS (by rw [HVCS.out]; exact hgrow3) (by rw [HVC.out]; exact hown3) (at_of rfl (by rw [HVCS.out]; simpa using hat3)); obtain ⟨u0, u1, u2, u3, u4, u5, u6, u7, u8, u9⟩ := rd_cells q1; obtain ⟨x0, x1, x2, x3, x4, x5, x6, x7, x8, x9⟩ := rd_cells q2))
  all_goals
    clear hown3 hgrow3 hat3 hlt3 q1 q2 hfa hfb hrow
    go_wp2
    go_ret
    exact ⟨rfl, _, _, q3, q4.undrew⟩

/-- A word behind the head. -/
theorem readWord_any (S : Nat → Prop) (R : Nat) (w : World) (s s' : St) (vcs vc : Value) (vs : List Value) (v : List UInt8) (h : Rd S R w s vcs vc vs) (hok : s.Ok) (hhd : s.headed = true) (hS : ∀ k, S k → k < w.heap.size ∧ k ≠ R) (hl : v.length ≤ maxLen) (hw : WordR s v s') :
    Calls Tryd.prog 29 #[.pointer (some ⟨R, 0, none⟩), .string (str v)] w fun e w' => e = .returned (.int .i64 0) ∧ ∃ vcs' vc' vs', Rd S R w' s' vcs' vc' vs' ∧ Kept S R w w' := by
  rcases hw with ⟨h1, h2, h3, h4, h5, h6, rfl⟩ | ⟨h1, h2, h6, rfl⟩
  · refine (readWord_lit S R w s vcs vc vs v h hok hhd hS hl h1 h2 h3 h4 h5 h6).mono ?_
    rintro e w' ⟨he, vc', hr, hk⟩
    exact ⟨he, _, _, _, hr, hk⟩
  · refine (readWord_zero S R w s vcs vc vs v h hok hhd hS hl h1 h2 h6).mono ?_
    rintro e w' ⟨he, vcs', vs', hr, hk⟩
    exact ⟨he, _, _, _, hr, hk⟩

end Go.Proofs.YtedpngipkaniaaaDoor
