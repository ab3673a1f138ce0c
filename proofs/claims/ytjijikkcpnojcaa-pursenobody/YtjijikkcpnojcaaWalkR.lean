/- The document's purse as it lies in memory, and its functions' contracts: which rooms there may be; how many tokens of a kind there are. -/
import Derived.Test.YtjijikkcpnojcaaWalkG
set_option linter.unusedVariables false
set_option linter.unusedSimpArgs false
namespace Go.Proofs.Ytjijikkcpnojcaa
open Go.RowKit Go.Conc

theorem Try.info3 : (Try.prog.info? 3).map (fun i => (i.zero, i.size, i.bytes)) = some (some (.int .i64 0), 1, 8) := by kernel_rfl

/-- A block of numbers: its first m are as a function says. -/
def Blk (w : World) (b m c : Nat) (f : Nat → Nat) : Prop :=
  ∃ cur, w.heap[b]? = some (.cells cur 3 (0, 0)) ∧ cur.size = c ∧ m ≤ c ∧ c ≤ maxLen ∧ ∀ i, i < m → cur[i]? = some (.int .i64 (f i : Int))
theorem Blk.lt {w : World} {b m c : Nat} {f : Nat → Nat} (h : Blk w b m c f) : b < w.heap.size := by obtain ⟨cur, h, _⟩ := h; exact lt_of_block h
theorem Blk.cell {w : World} {b m c : Nat} {f : Nat → Nat} (h : Blk w b m c f) {i : Nat} (hi : i < m) : w.cell? ⟨b, i, none⟩ = some (.int .i64 (f i : Int)) := by
  obtain ⟨cur, h, _, _, _, e⟩ := h
  simp [World.cell?, h, e i hi]
theorem Blk.fz {w : World} {b m c : Nat} {f : Nat → Nat} (h : Blk w b m c f) (i : Nat) : w.frozen? ⟨b, i, none⟩ = false := by
  obtain ⟨cur, h, _⟩ := h
  simp [World.frozen?, h]
theorem Blk.same {w w' : World} {b m c : Nat} {f : Nat → Nat} (h : Blk w b m c f) (e : w'.heap[b]? = w.heap[b]?) : Blk w' b m c f := by
  obtain ⟨cur, h, r⟩ := h
  exact ⟨cur, e.trans h, r⟩
theorem Blk.congr {w : World} {b m c : Nat} {f g : Nat → Nat} (h : Blk w b m c f) (e : ∀ i, i < m → g i = f i) : Blk w b m c g := by
  obtain ⟨cur, h, a, b, c, r⟩ := h
  exact ⟨cur, h, a, b, c, fun i hi => by rw [e i hi]; exact r i hi⟩
theorem Blk.set {w : World} {b m c : Nat} {f : Nat → Nat} (h : Blk w b m c f) {i : Nat} (hi : i < m) (x : Nat) : Blk (w.setCell ⟨b, i, none⟩ (.int .i64 (x : Int))) b m c (upd f i x) := by
  obtain ⟨cur, h, hc, hm, hx, r⟩ := h
  refine ⟨_, hd_set h, by simpa using hc, hm, hx, fun j hj => ?_⟩
  by_cases e : j = i
  · subst e; rw [upd_same, Array.getElem?_setIfInBounds_self_of_lt (by omega)]
  · rw [upd_other e, Array.getElem?_setIfInBounds_ne (by omega)]; exact r j hj
theorem blk_of_own {w : World} {b m c : Nat} {f : Nat → Nat} (h : w.ownsRow 0 3 1 (.slice (some ⟨b, 0, none⟩) m c) m ((List.range m).map fun i => .int .i64 (f i : Int))) : Blk w b m c f := by
  rcases h.2 with ⟨e, _⟩ | ⟨g, cap, cur, e, _, hg, hm, hx, hs, ht⟩
  · simp at e
  · simp at e
    obtain ⟨rfl, rfl⟩ := e
    refine ⟨cur, hg, by omega, hm, hx, fun i hi => ?_⟩
    have : (cur.toList.take (m * 1))[i]? = some (.int .i64 (f i : Int)) := by rw [ht]; simp [hi]
    rw [List.getElem?_take_of_lt (by omega)] at this
    simpa using this
theorem Blk.ty {w : World} {b m c : Nat} {f : Nat → Nat} (h : Blk w b m c f) : ∃ cur, w.heap[b]? = some (.cells cur 3 (0, 0)) := by obtain ⟨cur, h, _⟩ := h; exact ⟨cur, h⟩
theorem ne_type {W : World} {p q : Nat} {x y : Array Value} {t u : TypeId} (h1 : W.heap[p]? = some (.cells x t (0, 0))) (h2 : W.heap[q]? = some (.cells y u (0, 0))) (h : t ≠ u) : p ≠ q := by
  intro e
  subst e
  rw [h1] at h2
  injection h2 with h2
  injection h2 with _ h3
  exact h h3
theorem own_none (W : World) (t : TypeId) : (W.alloc (.cells #[] t)).ownsRow 0 t 1 (.slice (some ⟨W.heap.size, 0, none⟩) 0 0) 0 [] :=
  ⟨rfl, .inr ⟨W.heap.size, 0, #[], rfl, Nat.zero_le _, heap_alloc_new W _, Nat.le_refl _, Nat.zero_le _, rfl, rfl⟩⟩
theorem Blk.news {W : World} {a m c : Nat} {f : Nat → Nat} (h : Blk W a m c f) (o : Obj) : ∀ j u, ((List.range m).map fun i => Value.int .i64 (f i : Int))[j]? = some u → (W.alloc o).cell? ((⟨a, 0, none⟩ : Addr).add j) = some u := by
  intro j u hu
  rw [Addr.add_lit, World.cell?_of_block (heap_alloc_old W o h.lt)]
  rw [List.getElem?_map] at hu
  obtain ⟨x, hx, rfl⟩ := Option.map_eq_some_iff.1 hu
  obtain ⟨hj, e⟩ := List.getElem?_eq_some_iff.1 hx
  simp at e hj
  subst e
  simpa using h.cell hj

/-- Rooms that lie somewhere. -/
def Rms (w : World) (q off N : Nat) (room : Nat → Nat) : Prop := ∀ i, i < N → q < w.heap.size ∧ w.cell? ⟨q, off + i, none⟩ = some (.int .i64 (room i : Int))
theorem Rms.below {w W : World} {q off N : Nat} {room : Nat → Nat} (h : Rms w q off N room) (hb : Below w.heap.size w W) : Rms W q off N room := fun i hi =>
  ⟨Nat.lt_of_lt_of_le (h i hi).1 hb.size, (hb.cell (p := ⟨q, off + i, none⟩) (h i hi).1).trans (h i hi).2⟩
theorem Rms.same {w W : World} {q off N : Nat} {room : Nat → Nat} (h : Rms w q off N room) (hb : W.heap[q]? = w.heap[q]?) (hs : w.heap.size ≤ W.heap.size) : Rms W q off N room := fun i hi =>
  ⟨Nat.lt_of_lt_of_le (h i hi).1 hs, (World.cell?_of_block hb).trans (h i hi).2⟩

/-- The document's purse: the words of its struct. -/
def rv (q off ca b cb N nx : Nat) : Array Value := #[.slice (some ⟨q, off, none⟩) N ca, .slice (some ⟨b, 0, none⟩) N cb, .int .i64 (nx : Int)]
structure Rf (w : World) (q off b cb N : Nat) (room left : Nat → Nat) : Prop where
  r : Rms w q off N room
  s : Blk w b N cb left
theorem Rf.below {w w' : World} {q off b cb N : Nat} {room left : Nat → Nat} (h : Rf w q off b cb N room left) (hb : Below w.heap.size w w') : Rf w' q off b cb N room left :=
  ⟨h.r.below hb, h.s.same (hb.block _ h.s.lt)⟩

/-- A box that holds the document's purse. -/
structure Bxd (w W : World) (X q off ca b cb N nx : Nat) : Prop where
  hd : W.heap[X]? = some (.cells (rv q off ca b cb N nx) 31 (0, 0))
  bel : Below w.heap.size w W
section
variable {w W : World} {X q off ca b cb N nx : Nat}
theorem Bxd.c0 (h : Bxd w W X q off ca b cb N nx) : W.cell? ⟨X, 0, none⟩ = some (.slice (some ⟨q, off, none⟩) N ca) := by simp [World.cell?, h.hd, rv]
theorem Bxd.c1 (h : Bxd w W X q off ca b cb N nx) : W.cell? ⟨X, 1, none⟩ = some (.slice (some ⟨b, 0, none⟩) N cb) := by simp [World.cell?, h.hd, rv]
theorem Bxd.c2 (h : Bxd w W X q off ca b cb N nx) : W.cell? ⟨X, 2, none⟩ = some (.int .i64 (nx : Int)) := by simp [World.cell?, h.hd, rv]
end

/-- Two boxes: one holds the document's purse, one will. -/
structure Bx2 (w W : World) (X Y q off ca b cb N nx : Nat) : Prop where
  hd : W.heap[X]? = some (.cells (rv q off ca b cb N nx) 31 (0, 0))
  yd : W.heap[Y]? = some (.cells #[.slice none 0 0, .slice none 0 0, .int .i64 0] 31 (0, 0))
  bel : Below w.heap.size w W
  lx : w.heap.size ≤ X
  ly : w.heap.size ≤ Y
  ne : X ≠ Y
section
variable {w W w3 : World} {X Y q off ca b cb N nx : Nat}
theorem Bx2.c0 (h : Bx2 w W X Y q off ca b cb N nx) : W.cell? ⟨X, 0, none⟩ = some (.slice (some ⟨q, off, none⟩) N ca) := by simp [World.cell?, h.hd, rv]
theorem Bx2.c1 (h : Bx2 w W X Y q off ca b cb N nx) : W.cell? ⟨X, 1, none⟩ = some (.slice (some ⟨b, 0, none⟩) N cb) := by simp [World.cell?, h.hd, rv]
theorem Bx2.c2 (h : Bx2 w W X Y q off ca b cb N nx) : W.cell? ⟨X, 2, none⟩ = some (.int .i64 (nx : Int)) := by simp [World.cell?, h.hd, rv]
theorem Bx2.fz (h : Bx2 w W X Y q off ca b cb N nx) (i : Nat) : W.frozen? ⟨X, i, none⟩ = false := by simp [World.frozen?, h.hd]
theorem Bx2.d0 (h : Bx2 w W X Y q off ca b cb N nx) : W.cell? ⟨Y, 0, none⟩ = some (.slice none 0 0) := by simp [World.cell?, h.yd]
theorem Bx2.d1 (h : Bx2 w W X Y q off ca b cb N nx) : W.cell? ⟨Y, 1, none⟩ = some (.slice none 0 0) := by simp [World.cell?, h.yd]
theorem Bx2.d2 (h : Bx2 w W X Y q off ca b cb N nx) : W.cell? ⟨Y, 2, none⟩ = some (.int .i64 0) := by simp [World.cell?, h.yd]
theorem Bx2.fy (h : Bx2 w W X Y q off ca b cb N nx) (i : Nat) : W.frozen? ⟨Y, i, none⟩ = false := by simp [World.frozen?, h.yd]
theorem bx2_new (w : World) (q off ca b cb N nx : Nat) : Bx2 w ((w.alloc (.cells (rv q off ca b cb N nx) 31)).alloc (.cells #[.slice none 0 0, .slice none 0 0, .int .i64 0] 31)) w.heap.size (w.heap.size + 1) q off ca b cb N nx := by
  refine ⟨?_, ?_, ((Below.refl _ _).alloc (Nat.le_refl _) _).alloc (by simp) _, Nat.le_refl _, by omega, by omega⟩
  · rw [heap_alloc_old _ _ (by simp)]; exact heap_alloc_new w _
  · have := heap_alloc_new (w.alloc (.cells (rv q off ca b cb N nx) 31)) (.cells #[.slice none 0 0, .slice none 0 0, .int .i64 0] 31)
    simpa using this
theorem old_of {o : Obj} (hg : (W.alloc o).grownBy w3 (some W.heap.size)) {k : Nat} (hk : k < W.heap.size) : w3.heap[k]? = W.heap[k]? := by
  rw [hg.block k (by simp; omega) (fun e => by injection e; omega), heap_alloc_old W _ hk]
theorem bel_of {o : Obj} (hb : Below w.heap.size w W) (hg : (W.alloc o).grownBy w3 (some W.heap.size)) : Below w.heap.size w w3 :=
  ⟨hg.os.trans hb.os, hg.tape.trans hb.tape, hg.output.trans hb.output, Nat.le_trans hb.size (Nat.le_trans (by simp) hg.size), fun k hk => (old_of hg (Nat.lt_of_lt_of_le hk hb.size)).trans (hb.block k hk)⟩
theorem Bx2.grown {o : Obj} (h : Bx2 w W X Y q off ca b cb N nx) (hg : (W.alloc o).grownBy w3 (some W.heap.size)) : Bx2 w w3 X Y q off ca b cb N nx :=
  ⟨(old_of hg (lt_of_block h.hd)).trans h.hd, (old_of hg (lt_of_block h.yd)).trans h.yd, bel_of h.bel hg, h.lx, h.ly, h.ne⟩
theorem Bx2.set1 (h : Bx2 w W X Y q off ca b cb N nx) (g cap : Nat) : Bx2 w (W.setCell ⟨X, 1, none⟩ (.slice (some ⟨g, 0, none⟩) N cap)) X Y q off ca g cap N nx :=
  ⟨(hd_set h.hd).trans (by simp [rv]), (hd_far (Ne.symm h.ne)).trans h.yd, h.bel.setCell h.lx _, h.lx, h.ly, h.ne⟩
theorem Bx2.set2 (h : Bx2 w W X Y q off ca b cb N nx) (y : Nat) : Bx2 w (W.setCell ⟨X, 2, none⟩ (.int .i64 (y : Int))) X Y q off ca b cb N y :=
  ⟨(hd_set h.hd).trans (by simp [rv]), (hd_far (Ne.symm h.ne)).trans h.yd, h.bel.setCell h.lx _, h.lx, h.ly, h.ne⟩
theorem Bx2.far (h : Bx2 w W X Y q off ca b cb N nx) {g i : Nat} {u : Value} (hx : g ≠ X) (hy : g ≠ Y) (hg : w.heap.size ≤ g) : Bx2 w (W.setCell ⟨g, i, none⟩ u) X Y q off ca b cb N nx :=
  ⟨(hd_far (Ne.symm hx)).trans h.hd, (hd_far (Ne.symm hy)).trans h.yd, h.bel.setCell hg _, h.lx, h.ly, h.ne⟩
theorem Bx2.drewN (h : Bx2 w W X Y q off ca b cb N nx) (m : Nat) : Bx2 w (W.drewN m) X Y q off ca b cb N nx := ⟨h.hd, h.yd, below_drewN h.bel m, h.lx, h.ly, h.ne⟩
theorem Bx2.below (h : Bx2 w W X Y q off ca b cb N nx) (hb : Below W.heap.size W w3) : Bx2 w w3 X Y q off ca b cb N nx :=
  ⟨(hb.block _ (lt_of_block h.hd)).trans h.hd, (hb.block _ (lt_of_block h.yd)).trans h.yd, h.bel.trans (hb.mono h.bel.size), h.lx, h.ly, h.ne⟩
end

/-- The document's purse as a call gives it back. -/
def RefTo (w : World) (q off ca N nx : Nat) (room left : Nat → Nat) (v : Value) (w' : World) : Prop :=
  ∃ b cb, v = .agg (rv q off ca b cb N nx) ∧ Rf w' q off b cb N room left ∧ Below w.heap.size w w'

set_option maxHeartbeats 1000000 in
theorem refSet_any (w : World) (q off ca b cb N nx : Nat) (room left : Nat → Nat) (k x : Nat) (hR : Rf w q off b cb N room left) (hN : N ≤ 8) (hk : k < N) (hx : x ≤ 4096) :
    Calls Try.prog 24 #[.agg (rv q off ca b cb N nx), .int .i64 (k : Int), .int .i64 (x : Int)] w fun e w' => ∃ g cap, e = .returned (.agg (rv q off ca g cap N nx)) ∧ Rf w' q off g cap N room (upd left k x) ∧ Below w.heap.size w w' ∧ w.heap.size ≤ g := by
  unfold rv
  go_enter Try.func24, Try.ntmps24
  go_upto_region 1 with fail
  refine forget (P := fun W => Code.wp Try.prog _ _ _ W) (fun W => Hid (Bx2 w W w.heap.size (w.heap.size + 1) q off ca b cb N nx)) (bx2_new w q off ca b cb N nx) ?_
  intro W HX
  generalize w.heap.size + 1 = Y at *
  obtain ⟨X, hX⟩ : ∃ X, X = w.heap.size := ⟨_, rfl⟩
  rw [← hX] at HX ⊢
  clear hX
  have hlt := lt_of_block HX.out.hd
  have hlt' := lt_of_block HX.out.yd
  have hRW := hR.below HX.out.bel
  have HR0 := hide hR.r
  have HRW := hide hRW
  have c1 := HX.out.c1
  have hnews := hRW.s.news (.cells #[] 3)
  clear hR hRW
  obtain ⟨i0, hi, hz0, hz1, hz2⟩ := info_parts Try.info3
  go_cut [] from 7 to 11 (fun wx => ∃ g cap, Hid (Bx2 w wx X Y q off ca g cap N nx) ∧ Hid (Blk wx g N cap left) ∧ w.heap.size ≤ g ∧ g ≠ X ∧ g ≠ Y)
  case first =>
    go_wp2_with (at_builtin; refine wpList_append_lies _ rfl _ _ 22 rfl 0 3 i0 (.int .i64 0) 1 8 Try.underlying22 hi hz0 hz1 hz2 rfl (by decide) _ 0 [] rfl (own_none W 3) ⟨b, 0, none⟩ N cb _ rfl (by simp) hnews (by intro u hu; obtain ⟨i, _, rfl⟩ := List.mem_map.1 hu; rfl) (by omega) (by unfold maxLen; omega) (by omega) (Nat.zero_le _) (W.heap.size + 1) (by simp) ?_; intro g1 cap1 w3 hown3 hgrow3 hat3 hlt3; simp only [Nat.zero_add, List.nil_append] at hown3; have hx3 := HX.out.grown hgrow3; have c1' := hx3.c1; have f1' := hx3.fz 1)
    go_meet
    case rel =>
      have hg1 : W.heap.size ≤ g1 := by
        rcases hat3 with e | e
        · have : W.heap.size = g1 := Option.some.inj e; omega
        · omega
      have hs := HX.out.bel.size
      exact ⟨g1, cap1, hx3.set1 g1 cap1, (blk_of_own hown3).same (hd_far (by omega)), by omega, by omega, by omega⟩
  case rest =>
  obtain ⟨g, cap, HB, HR2, hg, hgX, hgY⟩ := hcut
  clear c1 hnews hi hz0 hz1 hz2 HX HRW hlt hlt'
  have c1 := HB.out.c1
  have eg := HR2.out.cell hk
  have fg := HR2.out.fz k
  have HB3 := hide (HB.out.far (i := k) (u := .int .i64 (x : Int)) hgX hgY hg)
  have HR3 := hide (HR2.out.set hk x)
  clear HR2
  go_upto_region 3 with fail
  refine forget (P := fun W => Code.wp Try.prog _ _ _ W) (fun W => Hid (Bx2 w W X Y q off ca g cap N nx) ∧ Hid (Blk W g N cap (upd left k x))) ⟨HB3, HR3⟩ ?_
  rintro W2 ⟨HB4, HR4⟩
  clear HB HB3 HR3 c1 eg fg
  have c0 := HB4.out.c0
  have c1 := HB4.out.c1
  have c2 := HB4.out.c2
  have d0 := HB4.out.d0
  have d1 := HB4.out.d1
  have d2 := HB4.out.d2
  have e0 := HB4.out.fy 0
  have e1 := HB4.out.fy 1
  have e2 := HB4.out.fy 2
  have hne := HB4.out.ne
  have hne' := Ne.symm hne
  go_wp2
  have hbel := ((HB4.out.bel.setCell (p := ⟨Y, 0, none⟩) HB4.out.ly (.slice (some ⟨q, off, none⟩) N ca)).setCell (p := ⟨Y, 1, none⟩) HB4.out.ly (.slice (some ⟨g, 0, none⟩) N cap)).setCell (p := ⟨Y, 2, none⟩) HB4.out.ly (.int .i64 (nx : Int))
  refine bodyPost_ret (v := .agg #[.slice (some ⟨q, off, none⟩) N ca, .slice (some ⟨g, 0, none⟩) N cap, .int .i64 (nx : Int)]) (by simp [results, Try.results24, go_sem, c0, c1, c2, d0, d1, d2]) rfl ⟨g, cap, rfl, ?_, hbel, hg⟩
  exact ⟨HR0.out.below hbel, ((HR4.out.same (hd_far hgY)).same (hd_far hgY)).same (hd_far hgY)⟩
end Go.Proofs.Ytjijikkcpnojcaa
