/- Contracts of the document's heap: one is set; it is scaled, if it must; one is bumped; the step grows; a new one. -/
import Derived.Test.YtidhnmooloedmaaWalkR
import Derived.Deep.CutBlock
set_option linter.unusedVariables false
set_option linter.unusedSimpArgs false
namespace Go.Proofs.Ytidhnmooloedmaa
open Go.RowKit

theorem info_parts' {e : TypeId} {z : Value} {sz by' : Nat} (h : (Try.prog.info? e).map (fun i => (i.zero, i.size, i.bytes)) = some (some z, sz, by')) : ∃ i, Try.prog.info? e = some i ∧ i.zero = some z ∧ i.size = sz ∧ i.bytes = by' := by
  obtain ⟨i, hi, e⟩ := Option.map_eq_some_iff.1 h
  simp at e
  exact ⟨i, hi, e.1, e.2.1, e.2.2⟩

/-- Two boxes: one holds the document's heap, one will. -/
structure Bx2 (w W : World) (X Y a ca b cb n : Nat) (st : Int) : Prop where
  hd : W.heap[X]? = some (.cells (rv a ca b cb n st) 27 (0, 0))
  yd : W.heap[Y]? = some (.cells #[.slice none 0 0, .slice none 0 0, .int .i64 0] 27 (0, 0))
  bel : Below w.heap.size w W
  lx : w.heap.size ≤ X
  ly : w.heap.size ≤ Y
  ne : X ≠ Y
section
variable {w W : World} {X Y a ca b cb n : Nat} {st : Int}
theorem Bx2.c0 (h : Bx2 w W X Y a ca b cb n st) : W.cell? ⟨X, 0, none⟩ = some (.slice (some ⟨a, 0, none⟩) (n + 1) ca) := by simp [World.cell?, h.hd, rv]
theorem Bx2.c1 (h : Bx2 w W X Y a ca b cb n st) : W.cell? ⟨X, 1, none⟩ = some (.slice (some ⟨b, 0, none⟩) (n + 1) cb) := by simp [World.cell?, h.hd, rv]
theorem Bx2.c2 (h : Bx2 w W X Y a ca b cb n st) : W.cell? ⟨X, 2, none⟩ = some (.int .i64 st) := by simp [World.cell?, h.hd, rv]
theorem Bx2.fz (h : Bx2 w W X Y a ca b cb n st) (i : Nat) : W.frozen? ⟨X, i, none⟩ = false := by simp [World.frozen?, h.hd]
theorem Bx2.d0 (h : Bx2 w W X Y a ca b cb n st) : W.cell? ⟨Y, 0, none⟩ = some (.slice none 0 0) := by simp [World.cell?, h.yd]
theorem Bx2.d1 (h : Bx2 w W X Y a ca b cb n st) : W.cell? ⟨Y, 1, none⟩ = some (.slice none 0 0) := by simp [World.cell?, h.yd]
theorem Bx2.d2 (h : Bx2 w W X Y a ca b cb n st) : W.cell? ⟨Y, 2, none⟩ = some (.int .i64 0) := by simp [World.cell?, h.yd]
theorem Bx2.fy (h : Bx2 w W X Y a ca b cb n st) (i : Nat) : W.frozen? ⟨Y, i, none⟩ = false := by simp [World.frozen?, h.yd]
end

theorem bx2_new (w : World) (a ca b cb n : Nat) (st : Int) : Bx2 w ((w.alloc (.cells (rv a ca b cb n st) 27)).alloc (.cells #[.slice none 0 0, .slice none 0 0, .int .i64 0] 27)) w.heap.size (w.heap.size + 1) a ca b cb n st := by
  refine ⟨?_, ?_, ((Below.refl _ _).alloc (Nat.le_refl _) _).alloc (by simp) _, Nat.le_refl _, by omega, by omega⟩
  · rw [heap_alloc_old _ _ (by simp)]; exact heap_alloc_new w _
  · have := heap_alloc_new (w.alloc (.cells (rv a ca b cb n st) 27)) (.cells #[.slice none 0 0, .slice none 0 0, .int .i64 0] 27)
    simpa using this

theorem old_of {W w3 : World} {o : Obj} (hg : (W.alloc o).grownBy w3 (some W.heap.size)) {k : Nat} (hk : k < W.heap.size) : w3.heap[k]? = W.heap[k]? := by
  rw [hg.block k (by simp; omega) (fun e => by injection e; omega), heap_alloc_old W _ hk]
theorem bel_of {w W w3 : World} {o : Obj} (hb : Below w.heap.size w W) (hg : (W.alloc o).grownBy w3 (some W.heap.size)) : Below w.heap.size w w3 :=
  ⟨hg.os.trans hb.os, hg.tape.trans hb.tape, hg.output.trans hb.output, Nat.le_trans hb.size (Nat.le_trans (by simp) hg.size), fun k hk => (old_of hg (Nat.lt_of_lt_of_le hk hb.size)).trans (hb.block k hk)⟩
section
variable {w W w3 : World} {X Y a ca b cb n : Nat} {st : Int}
theorem Bx2.grown {o : Obj} (h : Bx2 w W X Y a ca b cb n st) (hg : (W.alloc o).grownBy w3 (some W.heap.size)) : Bx2 w w3 X Y a ca b cb n st :=
  ⟨(old_of hg (lt_of_block h.hd)).trans h.hd, (old_of hg (lt_of_block h.yd)).trans h.yd, bel_of h.bel hg, h.lx, h.ly, h.ne⟩
theorem Bx2.set0 (h : Bx2 w W X Y a ca b cb n st) (g cap : Nat) : Bx2 w (W.setCell ⟨X, 0, none⟩ (.slice (some ⟨g, 0, none⟩) (n + 1) cap)) X Y g cap b cb n st :=
  ⟨(hd_set h.hd).trans (by simp [rv]), (hd_far (Ne.symm h.ne)).trans h.yd, h.bel.setCell h.lx _, h.lx, h.ly, h.ne⟩
theorem Bx2.set1 (h : Bx2 w W X Y a ca b cb n st) (g cap : Nat) : Bx2 w (W.setCell ⟨X, 1, none⟩ (.slice (some ⟨g, 0, none⟩) (n + 1) cap)) X Y a ca g cap n st :=
  ⟨(hd_set h.hd).trans (by simp [rv]), (hd_far (Ne.symm h.ne)).trans h.yd, h.bel.setCell h.lx _, h.lx, h.ly, h.ne⟩
theorem Bx2.set2 (h : Bx2 w W X Y a ca b cb n st) (y : Int) : Bx2 w (W.setCell ⟨X, 2, none⟩ (.int .i64 y)) X Y a ca b cb n y :=
  ⟨(hd_set h.hd).trans (by simp [rv]), (hd_far (Ne.symm h.ne)).trans h.yd, h.bel.setCell h.lx _, h.lx, h.ly, h.ne⟩
theorem Bx2.far (h : Bx2 w W X Y a ca b cb n st) {g i : Nat} {u : Value} (hx : g ≠ X) (hy : g ≠ Y) (hg : w.heap.size ≤ g) : Bx2 w (W.setCell ⟨g, i, none⟩ u) X Y a ca b cb n st :=
  ⟨(hd_far (Ne.symm hx)).trans h.hd, (hd_far (Ne.symm hy)).trans h.yd, h.bel.setCell hg _, h.lx, h.ly, h.ne⟩
theorem Bx2.drewN (h : Bx2 w W X Y a ca b cb n st) (m : Nat) : Bx2 w (W.drewN m) X Y a ca b cb n st := ⟨h.hd, h.yd, below_drewN h.bel m, h.lx, h.ly, h.ne⟩
end
theorem own_none (W : World) (t : TypeId) : (W.alloc (.cells #[] t)).ownsRow 0 t 1 (.slice (some ⟨W.heap.size, 0, none⟩) 0 0) 0 [] :=
  ⟨rfl, .inr ⟨W.heap.size, 0, #[], rfl, Nat.zero_le _, heap_alloc_new W _, Nat.le_refl _, Nat.zero_le _, rfl, rfl⟩⟩
theorem Blb.news {W : World} {a m c : Nat} {f : Nat → Bool} (h : Blb W a m c f) (o : Obj) : ∀ j u, ((List.range m).map fun i => Value.bool (f i))[j]? = some u → (W.alloc o).cell? ((⟨a, 0, none⟩ : Addr).add j) = some u := by
  intro j u hu
  rw [Addr.add_lit, World.cell?_of_block (heap_alloc_old W o h.lt)]
  rw [List.getElem?_map] at hu
  obtain ⟨x, hx, rfl⟩ := Option.map_eq_some_iff.1 hu
  obtain ⟨hj, e⟩ := List.getElem?_eq_some_iff.1 hx
  simp at e hj
  subst e
  simpa using h.cell hj
theorem Blk.news {W : World} {a m c : Nat} {f : Nat → Int} (h : Blk W a m c f) (o : Obj) : ∀ j u, ((List.range m).map fun i => Value.int .i64 (f i))[j]? = some u → (W.alloc o).cell? ((⟨a, 0, none⟩ : Addr).add j) = some u := by
  intro j u hu
  rw [Addr.add_lit, World.cell?_of_block (heap_alloc_old W o h.lt)]
  rw [List.getElem?_map] at hu
  obtain ⟨x, hx, rfl⟩ := Option.map_eq_some_iff.1 hu
  obtain ⟨hj, e⟩ := List.getElem?_eq_some_iff.1 hx
  simp at e hj
  subst e
  simpa using h.cell hj

set_option maxHeartbeats 1000000 in
theorem refSet_any (w : World) (a ca b cb n : Nat) (f : Nat → Bool) (sc : Nat → Int) (st : Int) (v : Nat) (x : Bool) (hR : Rf w a ca b cb n f sc) (hn : n ≤ 1048576) (hv : v ≤ n) :
    Calls Try.prog 12 #[.agg (rv a ca b cb n st), .int .i64 (v : Int), .bool x] w fun e w' => ∃ a' ca', e = .returned (.agg (rv a' ca' b cb n st)) ∧ Rf w' a' ca' b cb n (upd f v x) sc ∧ Below w.heap.size w w' ∧ w.heap.size ≤ a' := by
  unfold rv
  go_enter Try.func12, Try.ntmps12
  go_upto_region 1 with fail
  refine forget (P := fun W => Code.wp Try.prog _ _ _ W) (fun W => Hid (Bx2 w W w.heap.size (w.heap.size + 1) a ca b cb n st)) (bx2_new w a ca b cb n st) ?_
  intro W HX
  generalize w.heap.size + 1 = Y at *
  obtain ⟨X, hX⟩ : ∃ X, X = w.heap.size := ⟨_, rfl⟩
  rw [← hX] at HX ⊢
  clear hX
  have hlt := lt_of_block HX.out.hd
  have hlt' := lt_of_block HX.out.yd
  have hRW := hR.below HX.out.bel
  have hbb : b < w.heap.size := hR.s.lt
  have HRW := hide hRW
  have c0 := HX.out.c0
  have hnews := hRW.i.news (.cells #[] 4)
  clear hR hRW
  obtain ⟨i0, hi, hz0, hz1, hz2⟩ := info_parts' Try.info4
  go_cut [] from 7 to 11 (fun wx => ∃ g cap, Hid (Bx2 w wx X Y g cap b cb n st) ∧ Hid (Rf wx g cap b cb n f sc) ∧ w.heap.size ≤ g ∧ g ≠ X ∧ g ≠ Y ∧ g ≠ b)
  case first =>
    go_wp2_with (at_builtin; refine wpList_append_lies _ rfl _ _ 24 rfl 0 4 i0 (.bool false) 1 1 Try.underlying24 hi hz0 hz1 hz2 rfl (by decide) _ 0 [] rfl (own_none W 4) ⟨a, 0, none⟩ (n + 1) ca _ rfl (by simp) hnews (by intro u hu; obtain ⟨i, _, rfl⟩ := List.mem_map.1 hu; rfl) (by omega) (by unfold maxLen; omega) (by omega) (Nat.zero_le _) (W.heap.size + 1) (by simp) ?_; intro g1 cap1 w3 hown3 hgrow3 hat3 hlt3; simp only [Nat.zero_add, List.nil_append] at hown3; have hx3 := HX.out.grown hgrow3; have c0' := hx3.c0; have f0' := hx3.fz 0)
    go_meet
    case rel =>
      have hg1 : W.heap.size ≤ g1 := by
        rcases hat3 with e | e
        · have : W.heap.size = g1 := Option.some.inj e; omega
        · omega
      have hs := HX.out.bel.size
      refine ⟨g1, cap1, hx3.set0 g1 cap1, ⟨(blb_of_own hown3).same (hd_far (by omega)), ?_⟩, by omega, by omega, by omega, by omega⟩
      exact (HRW.out.s.same (old_of hgrow3 HRW.out.s.lt)).same (hd_far (by have := HX.out.lx; omega))
  case rest =>
  obtain ⟨g, cap, HB, HR2, hg, hgX, hgY, hgb⟩ := hcut
  clear c0 hnews hi hz0 hz1 hz2 HX HRW hlt hlt'
  have c0 := HB.out.c0
  have eg := HR2.out.i.cell (i := v) (by omega)
  have fg := HR2.out.i.fz v
  have HB3 := hide (HB.out.far (i := v) (u := .bool x) hgX hgY hg)
  have HR3 : Hid (Rf (wc.setCell ⟨g, v, none⟩ (.bool x)) g cap b cb n (upd f v x) sc) := ⟨HR2.out.i.set (by omega) x, HR2.out.s.same (hd_far (Ne.symm hgb))⟩
  clear HR2
  go_upto_region 3 with fail
  refine forget (P := fun W => Code.wp Try.prog _ _ _ W) (fun W => Hid (Bx2 w W X Y g cap b cb n st) ∧ Hid (Rf W g cap b cb n (upd f v x) sc)) ⟨HB3, HR3⟩ ?_
  rintro W2 ⟨HB4, HR4⟩
  clear HB HB3 HR3 c0 eg fg
  have c0 := HB4.out.c0
  have c1 := HB4.out.c1
  have c2 := HB4.out.c2
  have d0 := HB4.out.d0
  have d1 := HB4.out.d1
  have d2 := HB4.out.d2
  have e0 := HB4.out.fy 0
  have e1 := HB4.out.fy 1
  have e2 := HB4.out.fy 2
  have hne := HB4.out.ne
  have hne' := Ne.symm hne
  have hbY : b ≠ Y := by have := HB4.out.ly; omega
  go_wp2
  refine bodyPost_ret (v := .agg #[.slice (some ⟨g, 0, none⟩) (n + 1) cap, .slice (some ⟨b, 0, none⟩) (n + 1) cb, .int .i64 st]) (by simp [results, Try.results12, go_sem, c0, c1, c2, d0, d1, d2]) rfl ⟨g, cap, rfl, ?_, ?_, hg⟩
  · exact ⟨((HR4.out.i.same (hd_far hgY)).same (hd_far hgY)).same (hd_far hgY), ((HR4.out.s.same (hd_far hbY)).same (hd_far hbY)).same (hd_far hbY)⟩
  · exact ((HB4.out.bel.setCell HB4.out.ly _).setCell HB4.out.ly _).setCell HB4.out.ly _
end Go.Proofs.Ytidhnmooloedmaa
