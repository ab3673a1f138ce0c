/- Contracts of the document's arena: two literals are swapped. -/
import Derived.Test.YtbibbdkijgaoeaaWalkO
set_option linter.unusedVariables false
set_option linter.unusedSimpArgs false
namespace Go.Proofs.Ytbibbdkijgaoeaa
open Go.RowKit Go.Maps

theorem below3 (w : World) (v : Value) : Below w.heap.size w (((w.alloc (.cells #[v] 28)).alloc (.cells #[.slice none 0 0] 28)).alloc (.cells #[v] 28)) := (((Below.refl _ _).alloc (Nat.le_refl _) _).alloc (by simp) _).alloc (by simp; omega) _

set_option maxHeartbeats 800000 in
theorem refSwap_no (F : Nat → Prop) (w : World) (a : Option Addr) (cap : Nat) (L : List Itm) (p i j : Int) (hR : Ref F w a cap L) (hl : words L ≤ 20000) (hno : p ∉ plF 0 L) :
    Calls Try.prog 23 #[.agg #[.slice a L.length cap], .int .i64 p, .int .i64 i, .int .i64 j] w fun e w' => e = .returned (.tuple #[.agg #[.slice a L.length cap], .int .i64 4]) ∧ Below w.heap.size w w' := by
  have G := hide (refAt_any F _ a cap L p ((hR.alloc (.cells #[.slice a L.length cap] 28)).alloc (.cells #[.slice none 0 0] 28)) hl)
  rw [atF_none L 0 0 p hno] at G
  clear hR
  go_enter Try.func23, Try.ntmps23
  go_wp2_with (go_at_call 31; refine (unhide G).mono ?_; rintro e w0 ⟨rfl, hw0⟩; subst w0)
  refine bodyPost_ret (v := .tuple #[.agg #[.slice a L.length cap], .int .i64 4]) (by simp [results, Try.results23, go_sem]) rfl ⟨rfl, ?_⟩
  exact (((Below.refl _ _).alloc (Nat.le_refl _) _).alloc (by simp) _).alloc (by simp; omega) _

set_option maxHeartbeats 1600000 in
theorem refSwap_arg (F : Nat → Prop) (w : World) (a : Option Addr) (cap : Nat) (A R : List Itm) (it : Itm) (i j : Int) (hR : Ref F w a cap (A ++ it :: R)) (hl : words (A ++ it :: R) ≤ 20000) (hit : it.2 = false) (hbad : i < 0 ∨ j < 0 ∨ it.1.length ≤ i ∨ it.1.length ≤ j) :
    Calls Try.prog 23 #[.agg #[.slice a (A ++ it :: R).length cap], .int .i64 (words A), .int .i64 i, .int .i64 j] w fun e w' => e = .returned (.tuple #[.agg #[.slice a (A ++ it :: R).length cap], .int .i64 1]) ∧ Below w.heap.size w w' := by
  have G := hide (refAt_any F _ a cap _ (words A) ((hR.alloc (.cells #[.slice a (A ++ it :: R).length cap] 28)).alloc (.cells #[.slice none 0 0] 28)) hl)
  have hat := atF_split A R it 0 0 hit
  rw [Nat.zero_add, Nat.zero_add] at hat
  rw [hat] at G
  have hlw := len_le_words (A ++ it :: R)
  have hlt : A.length < (A ++ it :: R).length := by simp
  obtain ⟨b, off, ai, ci, rfl, hb, h1, h2, h3, h4⟩ := hR.at A.length hlt
  rw [getElem_mid] at h1
  clear hR h3 h4 h2 hat
  generalize (A ++ it :: R).length = N at *
  have h1' := ((below3 w (.slice (some ⟨b, off, none⟩) N cap)).cell (p := ⟨b, off + A.length * 2, none⟩) hb).trans h1
  clear h1
  have key : i < 0 ∨ (0 ≤ i ∧ j < 0) ∨ (0 ≤ i ∧ 0 ≤ j ∧ (it.1.length : Int) ≤ i) ∨ (0 ≤ i ∧ 0 ≤ j ∧ i < (it.1.length : Int) ∧ (it.1.length : Int) ≤ j) := by omega
  clear hbad
  rcases key with k1 | ⟨k1, k2⟩ | ⟨k1, k2, k3⟩ | ⟨k1, k2, k3, k4⟩
  all_goals
    go_enter Try.func23, Try.ntmps23
    go_wp2_with (go_at_call 31; refine (unhide G).mono ?_; rintro e w0 ⟨rfl, hw0⟩; subst w0)
    refine bodyPost_ret (v := .tuple #[.agg #[.slice (some ⟨b, off, none⟩) N cap], .int .i64 1]) (by simp [results, Try.results23, go_sem]) rfl ⟨rfl, ?_⟩
    exact (((Below.refl _ _).alloc (Nat.le_refl _) _).alloc (by simp) _).alloc (by simp; omega) _

theorem own_lit3i (w : World) (v : Value) : Hid (((((w.alloc (.cells #[v] 28)).alloc (.cells #[.slice none 0 0] 28)).alloc (.cells #[v] 28)).alloc (.cells #[] 3)).ownsRow (w.heap.size + 3) 3 1 (.slice (some ⟨w.heap.size + 3, 0, none⟩) 0 0) 0 []) := by
  have := World.ownsRow_made (base := w.heap.size + 3) (e := 3) (size := 1) (((w.alloc (.cells #[v] 28)).alloc (.cells #[.slice none 0 0] 28)).alloc (.cells #[v] 28)) #[] 0 (by simp) (Nat.zero_le _) rfl
  rw [show (((w.alloc (.cells #[v] 28)).alloc (.cells #[.slice none 0 0] 28)).alloc (.cells #[v] 28)).heap.size = w.heap.size + 3 by simp] at this
  exact this

theorem own_lit_at (x : World) (n base : Nat) (hb : base ≤ x.heap.size) (hn : x.heap.size = n) : (x.alloc (.cells #[] 65)).ownsRow base 65 2 (.slice (some ⟨n, 0, none⟩) 0 0) 0 [] := by
  subst hn; exact own_lit0 x base hb

theorem rowF_of_own {F : Nat → Prop} {x : World} {base g n cap : Nat} {c : List Int} (h : x.ownsRow base 3 1 (.slice (some ⟨g, 0, none⟩) n cap) n (c.map (Value.int .i64))) (hF : F g) : RowF F x (some ⟨g, 0, none⟩) c := by
  intro k hk
  refine ⟨g, 0, rfl, (h.lt g rfl).2, hF, ?_⟩
  rw [Nat.zero_add]
  exact (own_cell h (by rw [List.getElem?_map, List.getElem?_eq_getElem hk]; rfl)).1

theorem swap_cells {w : World} {base g n cap : Nat} {c : List Int} {i j : Nat} (h : w.ownsRow base 3 1 (.slice (some ⟨g, 0, none⟩) n cap) n (c.map (Value.int .i64))) (hi : i < c.length) (hj : j < c.length) (y : Int) :
    w.cell? ⟨g, i, none⟩ = some (.int .i64 c[i]) ∧ w.frozen? ⟨g, i, none⟩ = false ∧ w.cell? ⟨g, j, none⟩ = some (.int .i64 c[j]) ∧ w.frozen? ⟨g, j, none⟩ = false ∧ ∃ z, (w.setCell ⟨g, i, none⟩ (.int .i64 y)).cell? ⟨g, j, none⟩ = some z := by
  obtain ⟨a1, a2⟩ := own_cell h (j := i) (u := .int .i64 c[i]) (by rw [List.getElem?_map, List.getElem?_eq_getElem hi]; rfl)
  obtain ⟨b1, b2⟩ := own_cell h (j := j) (u := .int .i64 c[j]) (by rw [List.getElem?_map, List.getElem?_eq_getElem hj]; rfl)
  refine ⟨a1, a2, b1, b2, ?_⟩
  by_cases e : i = j
  · subst e; exact ⟨_, World.cell?_setCell_same _ _ _ b1⟩
  · exact ⟨_, (World.cell?_setCell_other _ _ _ _ (by simp [e])).trans b1⟩

set_option maxHeartbeats 3200000 in
theorem refSwap_yes (F : Nat → Prop) (w : World) (a : Option Addr) (cap : Nat) (A R : List Itm) (c : List Int) (i j : Nat) (hR : Ref F w a cap (A ++ (c, false) :: R)) (hl : words (A ++ (c, false) :: R) ≤ 20000) (hi : i < c.length) (hj : j < c.length) (hF : ∀ k, w.heap.size ≤ k → F k) :
    Calls Try.prog 23 #[.agg #[.slice a (A ++ (c, false) :: R).length cap], .int .i64 (words A), .int .i64 i, .int .i64 j] w fun e w' => (∃ a' cap', e = .returned (.tuple #[.agg #[.slice a' (A ++ (c, false) :: R).length cap'], .int .i64 0]) ∧ Ref F w' a' cap' (A ++ (swapL c i j, false) :: R)) ∧ Below w.heap.size w w' := by
  obtain ⟨i0, hi0, hz0, hz1, hz2⟩ := info_parts Try.info65
  obtain ⟨i3, hi3, hy0, hy1, hy2⟩ := info_parts Try.info3
  have G := hide (refAt_any F _ a cap _ (words A) ((hR.alloc (.cells #[.slice a (A ++ (c, false) :: R).length cap] 28)).alloc (.cells #[.slice none 0 0] 28)) hl)
  have hat := atF_split A R (c, false) 0 0 rfl
  rw [Nat.zero_add, Nat.zero_add] at hat
  rw [hat] at G
  have hlw := len_le_words (A ++ (c, false) :: R)
  have hcw : c.length ≤ 20000 := by have := words_le_of_mem (L := A ++ (c, false) :: R) (it := (c, false)) (by simp); simp only at this; omega
  have hlt : A.length < (A ++ (c, false) :: R).length := by simp
  obtain ⟨b, off, ai, ci, rfl, hb, h1, h2, h3, h4⟩ := hR.at A.length hlt
  rw [getElem_mid] at h1 h3
  simp only at h1 h3
  obtain ⟨bi, oi, rfl, hbi, hFi, hci⟩ := h3 i hi
  obtain ⟨bj, oj, ej, hbj, _, hcj⟩ := h3 j hj
  simp only [Option.some.injEq, Addr.mk.injEq, and_true] at ej
  obtain ⟨rfl, rfl⟩ := ej
  have gi : c[i] = c.getD i 0 := by simp [hi]
  have gj : c[j] = c.getD j 0 := by simp [hj]
  rw [gi] at hci
  rw [gj] at hcj
  obtain ⟨cells, hI, hsrc⟩ := hR
  obtain ⟨v0, g0, gc, g1⟩ := hI.get A.length hlt
  have HG0 := hide g0
  have HI := hide hI
  have HSRC : Hid (∀ x, Below w.heap.size w x → (some (⟨b, off, none⟩ : Addr) = none ∧ (A ++ (c, false) :: R).length = 0 ∧ cap = 0 ∧ cells = []) ∨ ∃ ad, some (⟨b, off, none⟩ : Addr) = some ad ∧ cells.length = (A ++ (c, false) :: R).length * 2 ∧ ∀ j u, cells[j]? = some u → x.cell? (ad.add j) = some u) := fun x hx => Ref.src hI hsrc (fun k hk _ => hx.block k hk)
  have HONE := hide hI.one
  have HF := hide hF
  have HROW := hide h3.row
  clear hI hsrc hat hF g0 g1 gc h2 h4 gi gj h3
  generalize (A ++ (c, false) :: R).length = N at *
  have HFACT := ref_facts w (.slice (some ⟨b, off, none⟩) N cap)
  have HOWN := own_lit3i w (.slice (some ⟨b, off, none⟩) N cap)
  have HCELL : Hid (∀ x, Below w.heap.size w x → x.cell? ⟨b, off + A.length * 2, none⟩ = some (.slice (some ⟨bi, oi, none⟩) c.length ci) ∧ x.cell? ⟨bi, oi + i, none⟩ = some (.int .i64 (c.getD i 0)) ∧ x.cell? ⟨bi, oi + j, none⟩ = some (.int .i64 (c.getD j 0))) := fun x hx =>
    ⟨(hx.cell (p := ⟨b, off + A.length * 2, none⟩) hb).trans h1, (hx.cell (p := ⟨bi, oi + i, none⟩) hbi).trans hci, (hx.cell (p := ⟨bi, oi + j, none⟩) hbi).trans hcj⟩
  obtain ⟨d1, d2, d3⟩ := HCELL.out _ (below3 w (.slice (some ⟨b, off, none⟩) N cap))
  obtain ⟨d4, _, _⟩ := HCELL.out _ ((below3 w (.slice (some ⟨b, off, none⟩) N cap)).alloc (by simp; omega) (.cells #[] 3))
  clear h1 hci hcj
  generalize hx0 : c.getD i 0 = x0 at *
  generalize hy0' : c.getD j 0 = y0 at *
  have HX0 := hide hx0
  have HY0 := hide hy0'
  clear hx0 hy0'
  have hi' : (i : Int) < c.length := by omega
  have hj' : (j : Int) < c.length := by omega
  go_enter Try.func23, Try.ntmps23
  go_wp2_with (first
    | (go_at_call 31; refine (unhide G).mono ?_; rintro e w0 ⟨rfl, hw0⟩; subst w0)
    | (at_builtin; refine wpList_append_any rfl _ _ 32 rfl (w.heap.size + 3) 3 i3 (.int .i64 0) 1 8 Try.underlying32 hi3 hy0 hy1 hy2 rfl (by decide) (.slice (some ⟨w.heap.size + 3, 0, none⟩) 0 0) 0 [] rfl HOWN.out (by simp) (some ⟨bi, oi, none⟩) c.length ci (c.map (Value.int .i64)) rfl (.inr ⟨_, rfl, by simp, row_src (HROW.out.kp (Kp.of_below (S := fun _ => False) ((below3 w _).alloc (by simp; omega) _)) (fun _ _ _ _ h => h))⟩) (one_ints _) (by unfold maxLen; omega) (by omega) (by simp) ?_; intro g1 cap1 w1 ho1 hgr1 hat1 hlt1; simp only [Nat.zero_add, List.nil_append] at ho1; have hg1 := (ho1.lt g1 rfl).1; have hbl1 := ((Below.refl (w.heap.size + 3) _).alloc (by simp) _).grown hgr1 (by simp) (fun k e => by simp [Value.ownBlock] at e; omega); obtain ⟨s1, s2, s3, s4, s5⟩ := HFACT.out _ hbl1; obtain ⟨e1, e2, e3⟩ := HCELL.out _ s5; obtain ⟨k1, k2, k3, k4, zz, hzz⟩ := swap_cells ho1 hi hj y0; have hblX := ((hbl1.setCell (p := ⟨g1, i, none⟩) hg1 (.int .i64 y0)).setCell (p := ⟨g1, j, none⟩) hg1 (.int .i64 x0)); obtain ⟨t1, t2, t3, t4, t5⟩ := HFACT.out _ (hbl1.setCell (p := ⟨g1, i, none⟩) hg1 (.int .i64 y0)); obtain ⟨t6, t7, t8⟩ := HCELL.out _ t5; obtain ⟨u1, u2, u3, u4, u5⟩ := HFACT.out _ (hblX.alloc (by rw [size_setCell, size_setCell]; omega) (.cells #[] 65)); have hw1 : w.heap.size + 3 ≤ w1.heap.size := by omega)
    | (at_builtin; refine wpList_append_any rfl _ _ 26 rfl w1.heap.size 65 i0 (.agg #[.slice none 0 0, .bool false]) 2 32 Try.underlying26 hi0 hz0 hz1 hz2 rfl (by decide) (.slice (some ⟨w1.heap.size, 0, none⟩) 0 0) 0 [] rfl (own_lit_at _ w1.heap.size w1.heap.size (by rw [size_setCell, size_setCell]; exact Nat.le_refl _) (by rw [size_setCell, size_setCell])) (by simp) (some ⟨b, off, none⟩) N cap cells rfl (HSRC.out _ u5) HONE.out (by unfold maxLen; omega) (by omega) (by simp [size_setCell]) ?_; intro g2 cap2 w2 ho2 hgr2 hat2 hlt2; simp only [Nat.zero_add, List.nil_append] at ho2; have hg2 := (ho2.lt g2 rfl).1; have hbl2 := (hblX.alloc (by rw [size_setCell, size_setCell]; omega) (.cells #[] 65)).grown hgr2 (by simp [size_setCell]; omega) (fun k e => by simp [Value.ownBlock] at e; omega); obtain ⟨v1, v2, v3, v4, v5⟩ := HFACT.out _ hbl2; obtain ⟨l1, l2⟩ := own_cell ho2 HG0.out; have hne2 : g2 ≠ w.heap.size + 1 := by omega))
  have oX := ownsRow_setS (i := j) (ownsRow_setS (i := i) ho1 (g := g1) rfl (.int .i64 y0)) (g := g1) rfl (.int .i64 x0)
  rw [← List.map_set, ← List.map_set] at oX
  have hsw : (c.set i y0).set j x0 = swapL c i j := by rw [← HX0.out, ← HY0.out]; rfl
  rw [hsw] at oX
  have o2 := (oX.alloc (.cells #[] 65)).kept hgr2 (.inr (by simp [Value.ownBlock]; omega))
  have o3 := ownsRow_setCell_other (a := ⟨g2, A.length * 2, none⟩) o2 (by simp [Value.ownBlock]; omega) (.slice (some ⟨g1, 0, none⟩) c.length cap1)
  have o4 := ownsRow_setCell_other (a := ⟨w.heap.size + 1, 0, none⟩) o3 (by simp [Value.ownBlock]; omega) (.slice (some ⟨g2, 0, none⟩) N cap2)
  have hBf := (v5.setCell (p := ⟨g2, A.length * 2, none⟩) (by show w.heap.size ≤ g2; omega) (.slice (some ⟨g1, 0, none⟩) c.length cap1)).setCell (p := ⟨w.heap.size + 1, 0, none⟩) (by show w.heap.size ≤ w.heap.size + 1; omega) (.slice (some ⟨g2, 0, none⟩) N cap2)
  have hCl : Cl F _ (.slice (some ⟨g1, 0, none⟩) c.length cap1) (swapL c i j) := ⟨_, _, by rw [swapL_len], rowF_of_own o4 (HF.out g1 (by omega)), by simp⟩
  have hIf := (HI.out.kept (fun k hk hF => ⟨hBf.block k hk, hF⟩) hBf.size).setClause hCl
  refine bodyPost_ret (v := .tuple #[.agg #[.slice (some ⟨g2, 0, none⟩) N cap2], .int .i64 0]) (by simp [results, Try.results23, go_sem, v2, hne2]) rfl ⟨⟨_, _, rfl, ref_of_own (base := w1.heap.size) (n := N) ?_ hIf (HF.out g2 (by omega))⟩, hBf⟩
  exact ownsRow_setCell_other (a := ⟨w.heap.size + 1, 0, none⟩) (ownsRow_setS ho2 (g := g2) rfl _) (by simpa [Value.ownBlock] using hne2) _

end Go.Proofs.Ytbibbdkijgaoeaa
