/- Contracts of the document's arena: a clause is added. -/
import Derived.Test.YtbibbdkijgaoeaaWalkM
import Derived.Deep.RegionLaw
set_option linter.unusedVariables false
set_option linter.unusedSimpArgs false
namespace Go.Proofs.Ytbibbdkijgaoeaa
open Go.RowKit Go.Maps

/-- One clause more. -/
theorem refAdd_end {F : Nat → Prop} {w w2 : World} {L : List Itm} {cells : List Value} {ca : Option Addr} {cc g cap2 base : Nat} {c : List Int} (hI : ItC F w cells L) (hc : RowF F w ca c) (hcn : ca = none → cc = 0) (hF : ∀ k, w.heap.size ≤ k → F k) (hbase : w.heap.size ≤ base) (hb : Below w.heap.size w w2)
    (ho : w2.ownsRow base 65 2 (.slice (some ⟨g, 0, none⟩) (L.length + 1) cap2) (L.length + 1) (cells ++ [.slice ca c.length cc, .bool false])) : Ref F w2 (some ⟨g, 0, none⟩) cap2 (L ++ [(c, false)]) := by
  have hk : ∀ k, k < w.heap.size → F k → w2.heap[k]? = w.heap[k]? ∧ F k := fun k hk hF => ⟨hb.block k hk, hF⟩
  exact ref_of_own ho ((hI.kept hk hb.size).append ⟨⟨⟨ca, cc, rfl, hc.kept hk hb.size, hcn⟩, rfl⟩, trivial⟩) (hF g (Nat.le_trans hbase (ho.lt g rfl).1))

theorem own_lit1 (W : World) (o : Obj) (base : Nat) (hb : base ≤ W.heap.size) : ((W.alloc o).alloc (.cells #[] 65)).ownsRow base 65 2 (.slice (some ⟨W.heap.size + 1, 0, none⟩) 0 0) 0 [] := by
  have := own_lit0 (W.alloc o) base (by simp; omega)
  simpa using this

set_option maxHeartbeats 3200000 in
theorem refAdd_yes (F : Nat → Prop) (w : World) (a : Option Addr) (cap : Nat) (L : List Itm) (ca : Option Addr) (cc : Nat) (c : List Int) (hR : Ref F w a cap L) (hl : words L ≤ 20000) (hr : RowF F w ca c) (hcn : ca = none → cc = 0) (hc : c.length ≤ 20000) (hmay : mayB c 1048576 = true) (hF : ∀ k, w.heap.size ≤ k → F k) :
    Calls Try.prog 19 #[.agg #[.slice a L.length cap], .slice ca c.length cc] w fun e w' => (∃ a' cap', e = .returned (.tuple #[.agg #[.slice a' (L.length + 1) cap'], .int .i64 (words L), .int .i64 0]) ∧ Ref F w' a' cap' (L ++ [(c, false)])) ∧ Below w.heap.size w w' := by
  obtain ⟨i0, hi, hz0, hz1, hz2⟩ := info_parts Try.info65
  have hB : Below w.heap.size w ((w.alloc (.cells #[.slice a L.length cap] 28)).alloc (.cells #[.slice none 0 0] 28)) := ((Below.refl _ _).alloc (Nat.le_refl _) _).alloc (by simp) _
  have G := hide (may_any ca cc c _ (hr.row.kp (Kp.of_below (S := fun _ => False) hB) (fun _ _ _ _ h => h)) (by unfold maxLen; omega))
  rw [hmay] at G
  have G2 := hide (refWords_any F _ a cap L (hR.below hB) hl)
  have G3 : Hid (∀ x, Below w.heap.size w x → Calls Try.prog 27 #[.agg #[.slice a L.length cap]] x fun e w' => e = .returned (.int .i64 (words L)) ∧ w' = x.alloc (.cells #[.slice a L.length cap] 28)) := fun x hx => refWords_any F x a cap L (hR.below hx) hl
  obtain ⟨cells, hI, hsrc⟩ := hR
  have HI := hide hI
  have HSRC : Hid (∀ x, Below w.heap.size w x → (a = none ∧ L.length = 0 ∧ cap = 0 ∧ cells = []) ∨ ∃ ad, a = some ad ∧ cells.length = L.length * 2 ∧ ∀ j u, cells[j]? = some u → x.cell? (ad.add j) = some u) := fun x hx => Ref.src hI hsrc (fun k hk _ => hx.block k hk)
  have HONE := hide hI.one
  have HRF := hide hr
  have HCN := hide hcn
  have HF := hide hF
  have hlw := len_le_words L
  clear hr hI hsrc hcn hF hB hmay
  have hw4 : ¬ (4194304 : Int) < words L + 2 + c.length := by omega
  go_enter Try.func19, Try.ntmps19
  go_wp2_with (first
    | (go_at_call 35; refine (unhide G).mono ?_; rintro e w0 ⟨rfl, hw0⟩; subst w0)
    | (go_at_call 27; refine (unhide G2).mono ?_; rintro e w0 ⟨rfl, hw0⟩; subst w0))
  have hB : Below w.heap.size w (((w.alloc (.cells #[.slice a L.length cap] 28)).alloc (.cells #[.slice none 0 0] 28)).alloc (.cells #[.slice a L.length cap] 28)) := (((Below.refl _ _).alloc (Nat.le_refl _) _).alloc (by simp) _).alloc (by simp; omega) _
  have s0 : (((w.alloc (.cells #[.slice a L.length cap] 28)).alloc (.cells #[.slice none 0 0] 28)).alloc (.cells #[.slice a L.length cap] 28)).heap.size = w.heap.size + 3 := by simp
  have b0 : (((w.alloc (.cells #[.slice a L.length cap] 28)).alloc (.cells #[.slice none 0 0] 28)).alloc (.cells #[.slice a L.length cap] 28)).heap[w.heap.size]? = some (.cells #[.slice a L.length cap] 28 (0, 0)) := by
    rw [heap_alloc_old _ _ (by simp; omega), heap_alloc_old _ _ (by simp)]; exact heap_alloc_new w _
  have b1 : (((w.alloc (.cells #[.slice a L.length cap] 28)).alloc (.cells #[.slice none 0 0] 28)).alloc (.cells #[.slice a L.length cap] 28)).heap[w.heap.size + 1]? = some (.cells #[.slice none 0 0] 28 (0, 0)) := by
    rw [heap_alloc_old _ _ (by simp)]; simpa using heap_alloc_new (w.alloc (.cells #[.slice a L.length cap] 28)) (.cells #[.slice none 0 0] 28)
  generalize (((w.alloc (.cells #[.slice a L.length cap] 28)).alloc (.cells #[.slice none 0 0] 28)).alloc (.cells #[.slice a L.length cap] 28)) = W at *
  have c0 := cell_of_one b0
  have c1 := cell_of_one b1
  have f1 := free_of_one b1
  have HB0 := hide b0
  have HB1 := hide b1
  have HW := hide hB
  have HS0 := hide s0
  have hs1 : w.heap.size < W.heap.size := by omega
  have hs2 : w.heap.size + 1 < W.heap.size := by omega
  clear b0 b1 hB s0 G G2
  have HFACT : Hid (∀ x, Below W.heap.size W x → x.cell? ⟨w.heap.size, 0, none⟩ = some (.slice a L.length cap) ∧ x.cell? ⟨w.heap.size + 1, 0, none⟩ = some (.slice none 0 0) ∧ x.frozen? ⟨w.heap.size + 1, 0, none⟩ = false ∧ w.heap.size + 1 < x.heap.size ∧ Below w.heap.size w x) := fun x hx =>
    ⟨(hx.cell (p := ⟨w.heap.size, 0, none⟩) hs1).trans c0, (hx.cell (p := ⟨w.heap.size + 1, 0, none⟩) hs2).trans c1, (hx.frozen (p := ⟨w.heap.size + 1, 0, none⟩) hs2).trans f1, Nat.lt_of_lt_of_le hs2 hx.size, HW.out.trans (hx.mono (by omega))⟩
  have hWW := hide (Below.refl W.heap.size W)
  have hb65 : Hid (((W.alloc (.cells #[] 65)).alloc (.cells #[.slice ca c.length cc, .bool false] 65)).heap[W.heap.size + 1]? = some (.cells #[.slice ca c.length cc, .bool false] 65 (0, 0))) := by
    have := heap_alloc_new (W.alloc (.cells #[] 65)) (.cells #[.slice ca c.length cc, .bool false] 65)
    rw [show (W.alloc (.cells #[] 65)).heap.size = W.heap.size + 1 by simp] at this
    exact this
  have hb64 : Hid (((W.alloc (.cells #[.slice ca c.length cc, .bool false] 65)).alloc (.cells #[] 65)).heap[W.heap.size]? = some (.cells #[.slice ca c.length cc, .bool false] 65 (0, 0))) := (heap_alloc_old _ _ (by simp)).trans (heap_alloc_new W _)
  go_region_held3 (fun x => x.cell? ⟨w.heap.size, 0, none⟩ = some (.slice a L.length cap)) (first | go_keep | assumption | simp [*])
    (first
      | (refine step_append_any (by rfl) (.tmp 19) (.tmp 21) 26 (by rfl) W.heap.size 65 i0 (.agg #[.slice none 0 0, .bool false]) 2 32 Try.underlying26 hi hz0 hz1 hz2 rfl (by decide) (.slice (some ⟨W.heap.size, 0, none⟩) 0 0) 0 [] (by rfl) (own_lit0 W W.heap.size (Nat.le_refl _)) (by simp) a L.length cap cells (by rfl) (HSRC.out _ (HW.out.alloc (by omega) _).drew) HONE.out (by unfold maxLen; omega) (by omega) (by simp [World.drew]) ?_; intro g1 cap1 w1 ho1 hgr1 hat1 hlt1; simp only [Nat.zero_add, List.nil_append] at ho1; have hg1 := (ho1.lt g1 rfl).1; have hbl1 := (hWW.out.alloc (Nat.le_refl _) _).drew.grown hgr1 (by simp [World.drew]) (fun k e => by simp [Value.ownBlock] at e; omega); obtain ⟨s1, s2, s3, s4, s5⟩ := HFACT.out _ hbl1)
      | (refine step_append_any (by rfl) (.tmp 19) (.tmp 21) 26 (by rfl) W.heap.size 65 i0 (.agg #[.slice none 0 0, .bool false]) 2 32 Try.underlying26 hi hz0 hz1 hz2 rfl (by decide) (.slice (some ⟨W.heap.size, 0, none⟩) 0 0) 0 [] (by rfl) ((own_lit0 W W.heap.size (Nat.le_refl _)).alloc _) (by simp) a L.length cap cells (by rfl) (HSRC.out _ ((HW.out.alloc (by omega) _).alloc (by simp; omega) _).drew) HONE.out (by unfold maxLen; omega) (by omega) (by simp [World.drew]; omega) ?_; intro g1 cap1 w1 ho1 hgr1 hat1 hlt1; simp only [Nat.zero_add, List.nil_append] at ho1; have hg1 := (ho1.lt g1 rfl).1; have hbl1 := ((hWW.out.alloc (Nat.le_refl _) _).alloc (by simp) _).drew.grown hgr1 (by simp [World.drew]; omega) (fun k e => by simp [Value.ownBlock] at e; omega); have hb25 := (hgr1.block (W.heap.size + 1) (by simp [World.drew]) (by simp [Value.ownBlock])).trans hb65.out; obtain ⟨s1, s2, s3, s4, s5⟩ := HFACT.out _ hbl1)
      | (refine step_append_any (by rfl) (.tmp 19) (.tmp 21) 26 (by rfl) W.heap.size 65 i0 (.agg #[.slice none 0 0, .bool false]) 2 32 Try.underlying26 hi hz0 hz1 hz2 rfl (by decide) (.slice (some ⟨W.heap.size + 1, 0, none⟩) 0 0) 0 [] (by rfl) (own_lit1 W _ W.heap.size (Nat.le_refl _)) (by simp) a L.length cap cells (by rfl) (HSRC.out _ ((HW.out.alloc (by omega) _).alloc (by simp; omega) _).drew) HONE.out (by unfold maxLen; omega) (by omega) (by simp [World.drew]; omega) ?_; intro g1 cap1 w1 ho1 hgr1 hat1 hlt1; simp only [Nat.zero_add, List.nil_append] at ho1; have hg1 := (ho1.lt g1 rfl).1; have hbl1 := ((hWW.out.alloc (Nat.le_refl _) _).alloc (by simp) _).drew.grown hgr1 (by simp [World.drew]; omega) (fun k e => by simp [Value.ownBlock] at e; omega); have hb24 := (hgr1.block W.heap.size (by simp [World.drew]; omega) (by simp [Value.ownBlock])).trans hb64.out; obtain ⟨s1, s2, s3, s4, s5⟩ := HFACT.out _ hbl1)
      | (refine step_append_lies _ (by rfl) (.tmp 22) (.tmp 25) 26 (by rfl) W.heap.size 65 i0 (.agg #[.slice none 0 0, .bool false]) 2 32 Try.underlying26 hi hz0 hz1 hz2 rfl (by decide) (.slice (some ⟨g1, 0, none⟩) L.length cap1) L.length cells (by rfl) (ho1.alloc _) ⟨w1.heap.size, 0, none⟩ 1 1 [.slice ca c.length cc, .bool false] (by rfl) (by rfl) (World.news_of_block (cs := #[.slice ca c.length cc, .bool false]) (t := 65) (fr := (0, 0)) (heap_alloc_new w1 _)) (by simp [Value.oneCell']) (by decide) (by unfold maxLen; omega) (by omega) (by have := hbl1.size; simp; omega) (w1.heap.size + 1) (by simp) ?_; intro g2 cap2 w2 ho2 hgr2 hat2 hlt2; have hbl2 := (hbl1.alloc hbl1.size _).grown hgr2 (by have := hbl1.size; simp; omega) (fun k e => by simp [Value.ownBlock] at e; omega); obtain ⟨t1, t2, t3, t4, t5⟩ := HFACT.out _ hbl2)
      | (refine step_append_lies _ (by rfl) (.tmp 22) (.tmp 25) 26 (by rfl) W.heap.size 65 i0 (.agg #[.slice none 0 0, .bool false]) 2 32 Try.underlying26 hi hz0 hz1 hz2 rfl (by decide) (.slice (some ⟨g1, 0, none⟩) L.length cap1) L.length cells (by simp [Act.eval, Act.put]) ho1 ⟨W.heap.size + 1, 0, none⟩ 1 1 [.slice ca c.length cc, .bool false] (by rfl) (by rfl) (World.news_of_block (cs := #[.slice ca c.length cc, .bool false]) (t := 65) (fr := (0, 0)) hb25) (by simp [Value.oneCell']) (by decide) (by unfold maxLen; omega) (by omega) hbl1.size w1.heap.size rfl ?_; intro g2 cap2 w2 ho2 hgr2 hat2 hlt2; have hbl2 := hbl1.grown hgr2 hbl1.size (fun k e => by simp [Value.ownBlock] at e; omega); obtain ⟨t1, t2, t3, t4, t5⟩ := HFACT.out _ hbl2)
      | (refine step_append_lies _ (by rfl) (.tmp 22) (.tmp 25) 26 (by rfl) W.heap.size 65 i0 (.agg #[.slice none 0 0, .bool false]) 2 32 Try.underlying26 hi hz0 hz1 hz2 rfl (by decide) (.slice (some ⟨g1, 0, none⟩) L.length cap1) L.length cells (by simp [Act.eval, Act.put]) ho1 ⟨W.heap.size, 0, none⟩ 1 1 [.slice ca c.length cc, .bool false] (by rfl) (by rfl) (World.news_of_block (cs := #[.slice ca c.length cc, .bool false]) (t := 65) (fr := (0, 0)) hb24) (by simp [Value.oneCell']) (by decide) (by unfold maxLen; omega) (by omega) hbl1.size w1.heap.size rfl ?_; intro g2 cap2 w2 ho2 hgr2 hat2 hlt2; have hbl2 := hbl1.grown hgr2 hbl1.size (fun k e => by simp [Value.ownBlock] at e; omega); obtain ⟨t1, t2, t3, t4, t5⟩ := HFACT.out _ hbl2)
      | (go_at_call 27; refine ((unhide G3) _ t5).mono ?_; rintro e w0 ⟨rfl, hw0⟩; subst w0))
  all_goals
    go_wp2
    have hBf := (t5.setCell (p := ⟨w.heap.size + 1, 0, none⟩) (by show w.heap.size ≤ w.heap.size + 1; omega) (.slice (some ⟨g2, 0, none⟩) (L.length + 1) cap2)).alloc (by rw [size_setCell]; omega) (.cells #[.slice a L.length cap] 28)
    refine bodyPost_ret (v := .tuple #[.agg #[.slice (some ⟨g2, 0, none⟩) (L.length + 1) cap2], .int .i64 (words L), .int .i64 0]) (by simp [results, Try.results19, go_sem, t2, t4]) rfl ⟨⟨_, _, rfl, refAdd_end (base := W.heap.size) HI.out HRF.out HCN.out HF.out (by omega) hBf ?_⟩, hBf⟩
    exact (ownsRow_setCell_other (a := ⟨w.heap.size + 1, 0, none⟩) ho2 (by have := (ho2.lt g2 rfl).1; simp [Value.ownBlock]; omega) _).alloc _

end Go.Proofs.Ytbibbdkijgaoeaa
