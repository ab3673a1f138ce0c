/- Contracts: a clause is dropped. -/
import Derived.Test.YtbibbdkijgaoeaaWalkF
import Derived.Deep.RegionWith
import Derived.Deep.RegionLaw
set_option linter.unusedVariables false
set_option linter.unusedSimpArgs false
namespace Go.Proofs.Ytbibbdkijgaoeaa
open Go.RowKit Go.Maps

set_option maxHeartbeats 400000 in
theorem end_cells (w : World) (B b off n cap p q : Nat) (c1 : w.cell? ⟨B, 1, none⟩ = some (.slice (some ⟨b, off, none⟩) n cap)) (hcell : w.cell? ⟨b, off + (p + 1), none⟩ = some (.int .i64 q)) (hn : p + 1 < n) (hp : n ≤ 20000) (hq : q ≤ 20000) :
    Calls Try.prog 33 #[.pointer (some ⟨B, 0, none⟩), .int .i64 p] w fun e w' => e = .returned (.int .i64 (p + 2 + q)) ∧ w' = w := by
  go_enter Try.func33, Try.ntmps33
  go_wp2
  all_goals
    go_ret
    exact ⟨ret_int (by simp), rfl⟩

/-- A store into a row of the call's own. -/
theorem ownsRow_set {w : World} {base : Nat} {e : TypeId} {v : Value} {n : Nat} {xs : List Value} (h : w.ownsRow base e 1 v n xs) {g i : Nat} (hg : v.ownBlock = some g) (u : Value) : (w.setCell ⟨g, i, none⟩ u).ownsRow base e 1 v n (xs.set i u) := by
  refine ⟨by simpa using h.1, ?_⟩
  rcases h.2 with ⟨rfl, _⟩ | ⟨g', cap, cur, rfl, hb, hh, hn, hm, hs, ht⟩
  · simp [Value.ownBlock] at hg
  · simp [Value.ownBlock] at hg
    subst hg
    refine .inr ⟨g', cap, cur.setIfInBounds i u, rfl, hb, hd_set hh, hn, hm, by simpa using hs, ?_⟩
    rw [← ht]
    simp [List.take_set]

theorem Arn.rowCell {base : Nat} {w : World} {B M : Nat} {rv : Value} {L : List Itm} (h : Arn base w B M rv L) (hw : 0 < words L) : ∃ g cap, rv = .slice (some ⟨g, 0, none⟩) (words L) cap ∧ rv.ownBlock = some g ∧ words L ≤ cap ∧ cap ≤ maxLen ∧ (∀ i, w.frozen? ⟨g, i, none⟩ = false) ∧ g ≠ B ∧ g ≠ M := by
  have hap := h.apart
  rcases h.row.2 with ⟨_, h0⟩ | ⟨g, cap, cur, rfl, hb, hh, hn, hm, hs, ht⟩
  · omega
  · refine ⟨g, cap, rfl, rfl, hn, hm, fun i => by simp [World.frozen?, hh], ?_, ?_⟩
    · rintro rfl; exact hap.2.1 rfl
    · rintro rfl; exact hap.2.2 rfl

theorem pls_del {w' : World} {M : Nat} {ps qs : List Int} {D : DataW Unit} {p : Int} (hT : Tidy D) (hhas : ∀ k : Int, Maps.has D (.int .i64 k) = decide (k ∈ ps)) (hsize : Maps.size D = ps.length) (hp : p ∈ ps)
    (h : w'.ownsMap Try.prog 3 unitElem M ps.length (D.del (.int .i64 p))) (hq : qs.length + 1 = ps.length) (hm : ∀ k, k ∈ qs ↔ k ∈ ps ∧ k ≠ p) : Pls w' M qs := by
  have hs := size_del (k := .int .i64 p) hT
  rw [hhas, decide_eq_true hp] at hs
  simp only [if_true] at hs
  have hs' : Maps.size (D.del (.int .i64 p)) = qs.length := by omega
  refine ⟨_, ?_, fun k => ?_, hs'⟩
  · obtain ⟨es, clock, hb, F, hn, hD⟩ := h
    refine ⟨es, clock, hb, F, ?_, hD⟩
    rw [← hs', hD]; simp [Maps.size, length_sorted]
  · by_cases e : k = p
    · subst e; rw [has_del_same]; exact (decide_eq_false (fun h => ((hm _).1 h).2 rfl)).symm
    · rw [has_del_other (by intro h; exact e (by injection h)), hhas]; simp [hm, e]

theorem Kp.drew {S : Nat → Prop} {a w : World} (h : Kp S a w) : Kp S a w.drew := ⟨h.os, h.tape, h.output, h.size, h.block⟩

theorem drop_end {base : Nat} {w W1 w4 : World} {B M g : Nat} {rv : Value} {A R : List Itm} {it : Itm} {D : DataW Unit} {z : Int} (lB : base ≤ B) (lM : base ≤ M) (hit : it.2 = false)
    (hd : W1.heap[B]? = some (.cells (headOf B M rv (A ++ it :: R)) 68 (0, 0))) (ho : W1.ownsRow base 3 1 rv (words (A ++ it :: R)) ((rowOf (A ++ (it.1, true) :: R)).map (Value.int .i64))) (hK : Kp (Mine B M rv) w W1)
    (hap : B ≠ M ∧ rv.ownBlock ≠ some B ∧ rv.ownBlock ≠ some M) (hg : rv.ownBlock = some g) (hm : (words A : Int) ∈ plF 0 (A ++ it :: R)) (hT : Tidy D) (hhas : ∀ k : Int, Maps.has D (.int .i64 k) = decide (k ∈ plF 0 (A ++ it :: R))) (hsize : Maps.size D = (plF 0 (A ++ it :: R)).length)
    (hz : z = waste (A ++ it :: R) + (2 + it.1.length)) (hown : w4.ownsMap Try.prog 3 unitElem M (plF 0 (A ++ it :: R)).length (D.del (.int .i64 (words A)))) (hgr : (W1.setCell ⟨B, 3, none⟩ (.int .i64 z)).drew.grownBy w4 (some M)) :
    Arn base w4 B M rv (A ++ (it.1, true) :: R) ∧ Kp (Mine B M rv) w w4 := by
  have hB := lt_of_block hd
  have hBM : some B ≠ some M := fun e => hap.1 (by injection e)
  refine ⟨⟨lB, lM, ?_, ?_, ?_⟩, ?_⟩
  · rw [hgr.block B (by show B < (W1.setCell _ _).heap.size; rw [size_setCell]; exact hB) hBM]
    show (W1.setCell _ _).heap[B]? = _
    rw [hd_set hd, hz]
    simp [headOf, waste_drop A R it hit]
  · rw [words_set A R it (it.1, true) rfl]
    exact (ownsRow_setCell_other ho hap.2.1 (.int .i64 z)).drew.kept hgr (.inr hap.2.2)
  · exact pls_del hT hhas hsize hm hown (plF_drop_len A R it hit) (fun k => plF_drop A R it hit k)
  · exact Kp.grown (w := (W1.setCell ⟨B, 3, none⟩ (.int .i64 z)).drew) (hK.setCell (p := ⟨B, 3, none⟩) (.inl rfl) (.int .i64 z)).drew hgr (fun k _ e => by injection e with e; exact .inr (.inl e.symm))

set_option maxHeartbeats 800000 in
theorem drop_no (base : Nat) (w : World) (B M : Nat) (rv : Value) (L : List Itm) (p : Int) (hA : Arn base w B M rv L) (hp : (Lit.int .i64 p).wf = true) (hno : p ∉ plF 0 L) :
    Calls Try.prog 20 #[.pointer (some ⟨B, 0, none⟩), .int .i64 p] w fun e w' => e = .returned (.int .i64 4) ∧ Below w.heap.size w w' := by
  have G := hide (has_any base w B M rv L p hA hp)
  rw [decide_eq_false hno] at G
  clear hA
  go_enter Try.func20, Try.ntmps20
  go_wp2_with (go_at_call 29; refine (unhide G).mono ?_; rintro e w0 ⟨rfl, hw0⟩; subst w0)
  go_ret
  exact ⟨rfl, (Below.refl _ _).alloc (Nat.le_refl _) _⟩

set_option maxHeartbeats 1600000 in
theorem drop_yes (base : Nat) (w : World) (B M : Nat) (rv : Value) (A R : List Itm) (it : Itm) (hA : Arn base w B M rv (A ++ it :: R)) (hl : words (A ++ it :: R) ≤ 20000) (hit : it.2 = false) :
    Calls Try.prog 20 #[.pointer (some ⟨B, 0, none⟩), .int .i64 (words A)] w fun e w' => e = .returned (.int .i64 0) ∧ Arn base w' B M rv (A ++ (it.1, true) :: R) ∧ Kp (Mine B M rv) w w' := by
  have hw : words (A ++ it :: R) = words A + (2 + it.1.length) + words R := by rw [words_append]; simp [words]; omega
  have hws := waste_le (A ++ it :: R)
  have G := hide (has_any base w B M rv _ (words A) hA (i64_wf (by omega) (by omega)))
  have hm := plF_mem A R it 0 hit
  rw [Nat.zero_add] at hm
  rw [decide_eq_true hm] at G
  have HM := hide hm
  clear hm
  have hA1 := hA.alloc (.cells #[] 70)
  obtain ⟨g, cap, hrv, hgb, hc1, hc2, hfz, hgB, hgM⟩ := hA1.rowCell (by omega)
  unfold maxLen at hc2
  have c1 := hA1.c1
  have r0 := hA1.cellAt hgb (rowOf_kind A R it)
  have r1 := hA1.cellAt hgb (rowOf_count A R it)
  have fz := hfz (words A)
  clear hfz
  have K1 : Kp (Mine B M rv) w ((w.alloc (.cells #[] 70)).setCell ⟨g, words A, none⟩ (.int .i64 1)) := (Kp.of_below ((Below.refl _ _).alloc (Nat.le_refl _) _)).setCell (.inr (.inr hgb)) _
  have hd1 : ((w.alloc (.cells #[] 70)).setCell ⟨g, words A, none⟩ (.int .i64 1)).heap[B]? = some (.cells (headOf B M rv (A ++ it :: R)) 68 (0, 0)) := (Below.heap_setCell _ _ _ _ (Ne.symm hgB)).trans hA1.head
  have o1 : ((w.alloc (.cells #[] 70)).setCell ⟨g, words A, none⟩ (.int .i64 1)).ownsRow base 3 1 rv (words (A ++ it :: R)) ((rowOf (A ++ (it.1, true) :: R)).map (Value.int .i64)) := by
    have := ownsRow_set (i := words A) hA1.row hgb (.int .i64 1)
    rw [← List.map_set, rowOf_drop] at this; exact this
  have m1 : ((w.alloc (.cells #[] 70)).setCell ⟨g, words A, none⟩ (.int .i64 1)).heap[M]? = (w.alloc (.cells #[] 70)).heap[M]? := Below.heap_setCell _ _ _ _ (Ne.symm hgM)
  have r2 : ((w.alloc (.cells #[] 70)).setCell ⟨g, words A, none⟩ (.int .i64 1)).cell? ⟨g, words A + 1, none⟩ = some (.int .i64 it.1.length) := by
    rw [World.cell?_setCell_other _ _ _ _ (by simp)]; exact r1
  obtain ⟨D, hown, hhas, hsize⟩ := hA1.pls
  have hown1 := ownsMap_same hown m1
  have HA1 := hide hA1
  have HK := hide K1
  have HD := hide hd1
  have HO := hide o1
  have HH := hide hhas
  have HS := hide hsize
  have HR := hide r2
  have HG := hide hgb
  obtain ⟨_, d1, d2, d3, e1, e3⟩ := hd_cells hd1
  have hap := hide hA1.apart
  clear hA hA1 K1 hd1 o1 m1 r1 r2 hown hhas hsize hgb
  subst hrv
  go_enter Try.func20, Try.ntmps20
  go_wp2_with (go_at_call 29; refine (unhide G).mono ?_; rintro e w0 ⟨rfl, hw0⟩; subst w0)
  generalize ((w.alloc (.cells #[] 70)).setCell ⟨g, words A, none⟩ (.int .i64 1)) = W1 at *
  have hEnd : Hid (∀ x : World, x.cell? = W1.cell? → Calls Try.prog 33 #[.pointer (some ⟨B, 0, none⟩), .int .i64 (words A)] x fun e w' => e = .returned (.int .i64 (words A + 2 + it.1.length)) ∧ w' = x) :=
    fun x hx => end_cells x B g 0 (words (A ++ it :: R)) cap (words A) it.1.length (by rw [hx]; exact d1) (by rw [hx, Nat.zero_add]; exact HR.out) (by omega) (by omega) (by omega)
  go_region_with (go_at_call 33; refine ((unhide hEnd) _ (by rfl)).mono ?_; rintro e w0 ⟨rfl, hw0⟩; subst w0)
  all_goals
    go_wp2_with (at_delete; refine wpList_delete_own _ rfl _ _ 66 3 rfl 70 law3 Try.underlying66 _ M _ D rfl (World.ownsMap.setCell hown1.drew (fun e => hap.out.1 e.symm) _) _ _ rfl (keyOf_int_mk Try.underlying3 (i64_wf (by omega) (by omega))) ?_; intro w4 hownM hturn)
    go_ret
    exact ⟨rfl, drop_end HA1.out.lB HA1.out.lM hit HD.out HO.out HK.out hap.out HG.out HM.out (hown1.tidy law3) HH.out HS.out (by omega) hownM hturn.grown⟩

end Go.Proofs.Ytbibbdkijgaoeaa
