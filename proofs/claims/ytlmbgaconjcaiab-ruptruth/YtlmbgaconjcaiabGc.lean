/- Contracts: a literal comes to be true. -/
import Derived.Test.YtlmbgaconjcaiabUp
set_option linter.unusedVariables false
set_option linter.unusedSimpArgs false
namespace Go.Proofs.Ytlmbgaconjcaiab
open Go.RowKit

set_option maxHeartbeats 400000 in
theorem at_cell (w : World) (B V : Nat) (l : Int) (c1 : w.cell? ⟨B, 1, none⟩ = some (.int .i64 V)) (hV : V ≤ 1048576) (h0 : -1048576 ≤ l) (h1 : l ≤ 1048576) :
    Calls Try.prog 55 #[.pointer (some ⟨B, 0, none⟩), .int .i64 l] w fun e w' => e = .returned (.int .i64 (V + l)) ∧ w' = w := by
  go_enter Try.func55, Try.ntmps55
  go_wp2
  go_ret
  exact ⟨rfl, rfl⟩

theorem wrap_neg {l : Int} (h0 : -1048576 ≤ l) (h1 : l ≤ 1048576) : IntKind.i64.wrap (-l) = -l := by rw [IntKind.wrap_i64]; omega

theorem bit_set {xs : List Int} {i : Nat} {u : Int} (h : ∀ x ∈ xs, -1 ≤ x ∧ x ≤ 1) (hu : -1 ≤ u ∧ u ≤ 1) : ∀ x ∈ xs.set i u, -1 ≤ x ∧ x ≤ 1 := by
  intro x hx
  rcases List.mem_or_eq_of_mem_set hx with h' | rfl
  · exact h x h'
  · exact hu

section
variable {ρ : Nat → Rl} {w : World} {B : Nat} {H : Hd} {s : PS}

/-- What is there when a literal has come to be true. -/
def PutP (ρ : Nat → Rl) (w : World) (B : Nat) (H : Hd) (s : PS) (l r : Int) (w' : World) : Prop := ∃ ρ' tv, Rep ρ' w' B { H with tv := tv } (s.put l r) ∧ Ev ρ w ρ' w'

/-- Behind an append of something onto a row the struct is as it was. -/
theorem Rep.hdAfter {w' : World} {o : Obj} (h : Rep ρ w B H s) {r : Rl} {x : Ent} (hr : ents B H s r = some x) (h0 : r ≠ (0, 0)) (hg : (w.alloc o).grownBy w' x.v.ownBlock) {i : Nat} {u : Value} (hi : (headC B H s)[i]? = some u) :
    w'.cell? ⟨B, i, none⟩ = some u ∧ w'.frozen? ⟨B, i, none⟩ = false := by
  have hb : w'.heap[B]? = w.heap[B]? := (hg.block B (by have := h.lt; simp; omega) (fun e => (h.hold.ne hr e.symm (q := (0, 0)) rfl rfl h0) rfl)).trans (heap_alloc_old w o h.lt)
  exact ⟨(World.cell?_of_block (a := ⟨B, i, none⟩) hb).trans (h.hd hi), (World.frozen?_of_block (a := ⟨B, i, none⟩) hb).trans (h.fz i)⟩

set_option maxHeartbeats 2000000 in
theorem put_any (h : Rep ρ w B H s) (l r : Int) (hl : Lt s.vars l) (hS : Shp s) (hn : s.trail.length ≤ 1048576) (hr : -1 ≤ r ∧ r ≤ 1048576) :
    Calls Try.prog 71 #[.pointer (some ⟨B, 0, none⟩), .int .i64 l, .int .i64 r] w fun e w' => e = .returned (.tuple #[]) ∧ PutP ρ w B H s l r w' := by
  have hV := hS.vars
  have hl2 := hl.neg
  have hi := ix_int hl
  have hlt := ix_lt hl
  have hi2 := ix_int hl2
  have hlt2 := ix_lt hl2
  have hsv := hS.vals
  obtain ⟨g, cap, e, hg, hgn, hm, hs, hB, hc, hf⟩ := h.row (r := (4, 0)) rfl (by decide) (by simp only; omega)
  simp only at e hgn hc
  have c1 := h.c1
  have c5 := h.c5
  rw [e] at c5
  have d1 := hc (ix s.vars l) _ (valC_get (by omega))
  have d2 := hc (ix s.vars (-l)) _ (valC_get (by omega))
  have f1 := hf (ix s.vars l)
  have f2 := hf (ix s.vars (-l))
  have hne : ix s.vars l ≠ ix s.vars (-l) := by unfold Lt at hl; omega
  have hl' := hl
  unfold Lt at hl
  have hb0 : (0 : Int) ≤ s.vars + l := by omega
  have hb1 : (s.vars : Int) + l < s.vals.length := by omega
  have hb2 : (0 : Int) ≤ s.vars + -l := by omega
  have hb3 : (s.vars : Int) + -l < s.vals.length := by omega
  have hix : ((s.vars : Int) + l).toNat = ix s.vars l := rfl
  have hix2 : ((s.vars : Int) + -l).toNat = ix s.vars (-l) := rfl
  have HH := hide h
  have HSV := hide hsv
  have HG := hide hg
  have HR : Hid (ρ g ≠ oth) := h.roleOf (r := (4, 0)) rfl hg (by decide)
  have HSS := hide hS
  have hwr : IntKind.i64.wrap (-l) = -l := wrap_neg (by omega) (by omega)
  clear h hsv hc hf hS hg e hi hi2
  generalize s.vals.length = N at *
  generalize hk1 : ix s.vars l = k1 at *
  generalize hk2 : ix s.vars (-l) = k2 at *
  go_enter Try.func71, Try.ntmps71
  go_wp2_with fail
  go_region_held3 (fun w' => w'.cell? ⟨B, 5, none⟩ = some (.slice (some ⟨g, 0, none⟩) N cap) ∧ w'.cell? ⟨B, 1, none⟩ = some (.int .i64 s.vars) ) (go_keep) (first | (go_at_call 55; refine (at_cell _ _ s.vars _ ?_ (by omega) (by omega) (by omega)).mono ?_; (simp [*]); rintro e w' ⟨rfl, rfl⟩))
  refine forget (P := fun W => Exit.then _ _ Exit.normal _ W) (fun W => Rep ρ W B H { s with vals := (s.vals.set (ix s.vars l) 1).set (ix s.vars (-l)) (-1) } ∧ Ev ρ w ρ W) ?_ ?_
  · rw [hk1, hk2]
    exact ⟨(HH.out.drew.setVal HG.out k1 1).setVal HG.out k2 (-1), ((Ev.drew ρ w).trans (Ev.set HR.out k1 _)).trans (Ev.set HR.out k2 _)⟩
  rintro w1 ⟨h1, hev1⟩
  have hS1 : Shp { s with vals := (s.vals.set (ix s.vars l) 1).set (ix s.vars (-l)) (-1) } := ⟨hV, by simpa using HSS.out.vals, HSS.out.wat, HSS.out.fac, bit_set (bit_set HSS.out.bit (by omega)) (by omega), HSS.out.num⟩
  clear c1 c5 d1 d2 f1 f2 hix hix2 hb0 hb1 hb2 hb3
  obtain ⟨gf, fcap, efv, hgf, hgfB, hfc, hff, hflt, _, _⟩ := h1.fvForm hS1.fac
  obtain ⟨a8, tc, et, _, hm8, _⟩ := h1.trl
  obtain ⟨a10, lc, el, _⟩ := own_form (h1.hold.own (9, 0) _ rfl)
  have c7 := h1.c7
  have c8 := h1.c8
  have c10 := h1.c10
  simp only at efv et el
  rw [efv] at c7
  rw [et] at c8
  rw [el] at c10
  have hlab := hl'.abs
  have hfl : l.natAbs < s.fac.length := by have := HSS.out.fac; omega
  have hfg := facC_get s.fac l.natAbs _ (List.getElem?_eq_getElem hfl)
  have e0 := hfc _ _ hfg.1
  have e1 := hfc _ _ hfg.2.1
  have e2 := hfc _ _ hfg.2.2
  have z0 := hff (l.natAbs * 3)
  have z1 := hff (l.natAbs * 3 + 1)
  have z2 := hff (l.natAbs * 3 + 2)
  have G := fun n => hide (fact_any (h1.drewN n) l hl' (Nat.le_trans hV (by decide)) hS1.fac gf fcap efv)
  have HGF := hide hgf
  have HRF : Hid (ρ gf ≠ oth) := h1.roleOf (r := (7, 0)) rfl hgf (by decide)
  have H1 := hide h1
  have HEV1 := hide hev1
  have HSS1 := hide hS1
  clear h1 hev1 hS1 hfc hff hfg hgf el et efv
  unfold maxLen at hm8
  generalize hkf : l.natAbs * 3 = kf at *
  have HKF := hide hkf
  clear hkf
  go_wp2_with fail
  go_region_held3 (fun w' => w'.cell? ⟨B, 8, none⟩ = some (.slice a8 s.trail.length tc) ∧ w'.cell? ⟨B, 10, none⟩ = some (.slice a10 s.lvs.length lc)) (go_keep) (first | (go_at_call 65; refine (unhide (G 1)).mono ?_; rintro e w' ⟨rfl, rfl⟩))
  refine forget (P := fun W => Exit.then _ _ Exit.normal _ W) (fun W => Rep ρ W B H { s with vals := (s.vals.set (ix s.vars l) 1).set (ix s.vars (-l)) (-1), fac := s.fac.set l.natAbs (s.trail.length, s.lvs.length, r) } ∧ Ev ρ w ρ W) ?_ ?_
  · have h2 := (H1.out.drewN 1).setFact HGF.out l.natAbs ((s.trail.length : Int), (s.lvs.length : Int), r)
    rw [HKF.out] at h2
    exact ⟨h2, (HEV1.out.trans (Ev.drewN ρ w1 1)).trans (((Ev.set HRF.out _ _).trans (Ev.set HRF.out _ _)).trans (Ev.set HRF.out _ _))⟩
  clear e0 e1 e2 z0 z1 z2 c7 c8 c10 HEV1 H1 G
  rintro w2 ⟨h2, hev2⟩
  have c8 := h2.c8
  have hown := h2.hold.own (8, 0) _ rfl
  have hf8 := h2.fz 8
  obtain ⟨i0, hi, hz0, hz1, hz2⟩ := info_parts Try.info3
  have H2 := hide h2
  have HEV2 := hide hev2
  have hlt := h2.lt
  clear h2 hev2
  go_wp2_with (at_builtin; refine wpList_append_lies _ rfl _ _ 32 rfl 0 3 i0 (.int .i64 0) 1 8 Try.underlying32 hi hz0 hz1 hz2 rfl (by decide) _ s.trail.length _ rfl (hown.alloc _) ⟨w2.heap.size, 0, none⟩ 1 1 [.int .i64 l] rfl rfl (World.news_of_block (cs := #[.int .i64 l]) (heap_alloc_new w2 _)) (by simp [Value.oneCell']) (by decide) (by unfold maxLen; omega) (by omega) (Nat.zero_le _) (w2.heap.size + 1) (by simp) ?_; intro g1 cap1 w3 hown3 hgrow3 hat3 hlt3; obtain ⟨c8', f8'⟩ := H2.out.hdAfter (r := (8, 0)) rfl (by decide) hgrow3 (i := 8) rfl)
  have hfin := (H2.out.alloc (.cells #[.int .i64 l] 3)).tvTurn (v := .slice (some ⟨g1, 0, none⟩) (s.trail.length + 1) cap1) (tr := s.trail ++ [l]) (gg := g1) hgrow3 (by simpa [intC] using hown3) (fun g hg => by simp [Value.ownBlock] at hg; exact hg.symm) (by rcases hat3 with h | h; exact .inl h; exact .inr (by simp; omega))
  go_end0
  exact ⟨rfl, _, _, hfin.1, (HEV2.out.trans (Ev.alloc _)).trans hfin.2⟩
end

end Go.Proofs.Ytlmbgaconjcaiab
