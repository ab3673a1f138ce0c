/- Contracts of the document's arena: a clause is dropped. -/
import Derived.Test.YtbibbdkijgaoeaaWalkL
import Derived.Test.YtbibbdkijgaoeaaWalkM
set_option linter.unusedVariables false
set_option linter.unusedSimpArgs false
namespace Go.Proofs.Ytbibbdkijgaoeaa
open Go.RowKit Go.Maps

section
variable {F : Nat → Prop} {w w' : World}

theorem ItC.setGone : ∀ {cells : List Value} {A R : List Itm} {it : Itm} (g : Bool), ItC F w cells (A ++ it :: R) → ItC F w (cells.set (A.length * 2 + 1) (.bool g)) (A ++ (it.1, g) :: R)
  | v :: u :: r, [], R, it, g, h => ⟨⟨h.1.1, rfl⟩, h.2⟩
  | v :: u :: r, a :: A, R, it, g, h => by
    have := ItC.setGone g h.2
    rw [List.length_cons, show (A.length + 1) * 2 + 1 = A.length * 2 + 1 + 1 + 1 by omega]
    exact ⟨h.1, this⟩
  | [], [], _, _, _, h => h.elim
  | [], _ :: _, _, _, _, h => h.elim
  | [_], [], _, _, _, h => h.elim
  | [_], _ :: _, _, _, _, h => h.elim

theorem ItC.setClause : ∀ {cells : List Value} {A R : List Itm} {it : Itm} {v' : Value} {c' : List Int}, ItC F w cells (A ++ it :: R) → Cl F w v' c' → ItC F w (cells.set (A.length * 2) v') (A ++ (c', it.2) :: R)
  | v :: u :: r, [], R, it, v', c', h, hv => ⟨⟨hv, h.1.2⟩, h.2⟩
  | v :: u :: r, a :: A, R, it, v', c', h, hv => by
    have := ItC.setClause h.2 hv
    rw [List.length_cons, show (A.length + 1) * 2 = A.length * 2 + 1 + 1 by omega]
    exact ⟨h.1, this⟩
  | [], [], _, _, _, _, h, _ => h.elim
  | [], _ :: _, _, _, _, _, h, _ => h.elim
  | [_], [], _, _, _, _, h, _ => h.elim
  | [_], _ :: _, _, _, _, _, h, _ => h.elim

theorem ownsRow_setS {base : Nat} {e : TypeId} {s : Nat} {v : Value} {n : Nat} {xs : List Value} (h : w.ownsRow base e s v n xs) {g i : Nat} (hg : v.ownBlock = some g) (u : Value) : (w.setCell ⟨g, i, none⟩ u).ownsRow base e s v n (xs.set i u) := by
  refine ⟨by simpa using h.1, ?_⟩
  rcases h.2 with ⟨rfl, _⟩ | ⟨g', cap, cur, rfl, hb, hh, hn, hm, hs, ht⟩
  · simp [Value.ownBlock] at hg
  · simp [Value.ownBlock] at hg
    subst hg
    refine .inr ⟨g', cap, cur.setIfInBounds i u, rfl, hb, hd_set hh, hn, hm, by simpa using hs, ?_⟩
    rw [← ht]
    simp [List.take_set]

theorem own_cell {base : Nat} {e : TypeId} {s : Nat} {g n cap : Nat} {xs : List Value} (h : w.ownsRow base e s (.slice (some ⟨g, 0, none⟩) n cap) n xs) {j : Nat} {u : Value} (hu : xs[j]? = some u) : w.cell? ⟨g, j, none⟩ = some u ∧ w.frozen? ⟨g, j, none⟩ = false := by
  have h1 := h.cells (g := g) rfl j u hu
  rw [Addr.add_lit, Nat.zero_add] at h1
  obtain ⟨cur, hc⟩ := own_block h (g := g) rfl
  exact ⟨h1, by simp [World.frozen?, hc]⟩
end

theorem ref_close {F : Nat → Prop} {w x : World} {cells : List Value} {L : List Itm} {g cap n base : Nat} (hI : ItC F w cells L) (hb : Below w.heap.size w x) (hF : ∀ k, w.heap.size ≤ k → F k) (hbase : w.heap.size ≤ base) (ho : x.ownsRow base 65 2 (.slice (some ⟨g, 0, none⟩) n cap) n cells) : Ref F x (some ⟨g, 0, none⟩) cap L :=
  ref_of_own ho (hI.kept (fun k hk hF => ⟨hb.block k hk, hF⟩) hb.size) (hF g (Nat.le_trans hbase (ho.lt g rfl).1))

/-- Where a call of the document's arena keeps its argument and its result: behind three blocks. -/
theorem ref_facts (w : World) (v : Value) : Hid (∀ x, Below (w.heap.size + 3) (((w.alloc (.cells #[v] 28)).alloc (.cells #[.slice none 0 0] 28)).alloc (.cells #[v] 28)) x →
    x.cell? ⟨w.heap.size, 0, none⟩ = some v ∧ x.cell? ⟨w.heap.size + 1, 0, none⟩ = some (.slice none 0 0) ∧ x.frozen? ⟨w.heap.size + 1, 0, none⟩ = false ∧ w.heap.size + 1 < x.heap.size ∧ Below w.heap.size w x) := by
  have b0 : (((w.alloc (.cells #[v] 28)).alloc (.cells #[.slice none 0 0] 28)).alloc (.cells #[v] 28)).heap[w.heap.size]? = some (.cells #[v] 28 (0, 0)) := by
    rw [heap_alloc_old _ _ (by simp; omega), heap_alloc_old _ _ (by simp)]; exact heap_alloc_new w _
  have b1 : (((w.alloc (.cells #[v] 28)).alloc (.cells #[.slice none 0 0] 28)).alloc (.cells #[v] 28)).heap[w.heap.size + 1]? = some (.cells #[.slice none 0 0] 28 (0, 0)) := by
    rw [heap_alloc_old _ _ (by simp)]; simpa using heap_alloc_new (w.alloc (.cells #[v] 28)) (.cells #[.slice none 0 0] 28)
  intro x hx
  have hs := hx.size
  simp at hs
  exact ⟨(hx.cell (p := ⟨w.heap.size, 0, none⟩) (by simp)).trans (cell_of_one b0), (hx.cell (p := ⟨w.heap.size + 1, 0, none⟩) (by simp)).trans (cell_of_one b1), (hx.frozen (p := ⟨w.heap.size + 1, 0, none⟩) (by simp)).trans (free_of_one b1), by omega, ((((Below.refl _ _).alloc (Nat.le_refl _) _).alloc (by simp) _).alloc (by simp; omega) _).trans (hx.mono (by omega))⟩

theorem own_lit3 (w : World) (v : Value) : Hid (((((w.alloc (.cells #[v] 28)).alloc (.cells #[.slice none 0 0] 28)).alloc (.cells #[v] 28)).alloc (.cells #[] 65)).ownsRow (w.heap.size + 3) 65 2 (.slice (some ⟨w.heap.size + 3, 0, none⟩) 0 0) 0 []) := by
  have := own_lit0 (((w.alloc (.cells #[v] 28)).alloc (.cells #[.slice none 0 0] 28)).alloc (.cells #[v] 28)) (w.heap.size + 3) (by simp)
  rw [show (((w.alloc (.cells #[v] 28)).alloc (.cells #[.slice none 0 0] 28)).alloc (.cells #[v] 28)).heap.size = w.heap.size + 3 by simp] at this
  exact this

set_option maxHeartbeats 800000 in
theorem refDrop_no (F : Nat → Prop) (w : World) (a : Option Addr) (cap : Nat) (L : List Itm) (p : Int) (hR : Ref F w a cap L) (hl : words L ≤ 20000) (hno : p ∉ plF 0 L) :
    Calls Try.prog 21 #[.agg #[.slice a L.length cap], .int .i64 p] w fun e w' => e = .returned (.tuple #[.agg #[.slice a L.length cap], .int .i64 4]) ∧ Below w.heap.size w w' := by
  have G := hide (refAt_any F _ a cap L p ((hR.alloc (.cells #[.slice a L.length cap] 28)).alloc (.cells #[.slice none 0 0] 28)) hl)
  rw [atF_none L 0 0 p hno] at G
  clear hR
  go_enter Try.func21, Try.ntmps21
  go_wp2_with (go_at_call 31; refine (unhide G).mono ?_; rintro e w0 ⟨rfl, hw0⟩; subst w0)
  refine bodyPost_ret (v := .tuple #[.agg #[.slice a L.length cap], .int .i64 4]) (by simp [results, Try.results21, go_sem]) rfl ⟨rfl, ?_⟩
  exact (((Below.refl _ _).alloc (Nat.le_refl _) _).alloc (by simp) _).alloc (by simp; omega) _

set_option maxHeartbeats 1600000 in
theorem refDrop_yes (F : Nat → Prop) (w : World) (a : Option Addr) (cap : Nat) (A R : List Itm) (it : Itm) (hR : Ref F w a cap (A ++ it :: R)) (hl : words (A ++ it :: R) ≤ 20000) (hit : it.2 = false) (hF : ∀ k, w.heap.size ≤ k → F k) :
    Calls Try.prog 21 #[.agg #[.slice a (A ++ it :: R).length cap], .int .i64 (words A)] w fun e w' => (∃ a' cap', e = .returned (.tuple #[.agg #[.slice a' (A ++ it :: R).length cap'], .int .i64 0]) ∧ Ref F w' a' cap' (A ++ (it.1, true) :: R)) ∧ Below w.heap.size w w' := by
  obtain ⟨i0, hi, hz0, hz1, hz2⟩ := info_parts Try.info65
  have G := hide (refAt_any F _ a cap _ (words A) ((hR.alloc (.cells #[.slice a (A ++ it :: R).length cap] 28)).alloc (.cells #[.slice none 0 0] 28)) hl)
  have hat := atF_split A R it 0 0 hit
  rw [Nat.zero_add, Nat.zero_add] at hat
  rw [hat] at G
  have hlw := len_le_words (A ++ it :: R)
  have hlt : A.length < (A ++ it :: R).length := by simp
  obtain ⟨cells, hI, hsrc⟩ := hR
  obtain ⟨v0, g0, gc, g1⟩ := hI.get A.length hlt
  rw [getElem_mid, hit] at g1
  have HG1 := hide g1
  have HI := hide hI
  have HSRC : Hid (∀ x, Below w.heap.size w x → (a = none ∧ (A ++ it :: R).length = 0 ∧ cap = 0 ∧ cells = []) ∨ ∃ ad, a = some ad ∧ cells.length = (A ++ it :: R).length * 2 ∧ ∀ j u, cells[j]? = some u → x.cell? (ad.add j) = some u) := fun x hx => Ref.src hI hsrc (fun k hk _ => hx.block k hk)
  have HONE := hide hI.one
  have HF := hide hF
  clear hI hsrc hat hF g0 g1 gc
  generalize (A ++ it :: R).length = N at *
  have HFACT := ref_facts w (.slice a N cap)
  have HOWN := own_lit3 w (.slice a N cap)
  go_enter Try.func21, Try.ntmps21
  go_wp2_with (first
    | (go_at_call 31; refine (unhide G).mono ?_; rintro e w0 ⟨rfl, hw0⟩; subst w0)
    | (at_builtin; refine wpList_append_any rfl _ _ 26 rfl (w.heap.size + 3) 65 i0 (.agg #[.slice none 0 0, .bool false]) 2 32 Try.underlying26 hi hz0 hz1 hz2 rfl (by decide) (.slice (some ⟨w.heap.size + 3, 0, none⟩) 0 0) 0 [] rfl HOWN.out (by simp) a N cap cells rfl (HSRC.out _ ((((((Below.refl _ _).alloc (Nat.le_refl _) _).alloc (by simp) _).alloc (by simp; omega) _).alloc (by simp; omega) _))) HONE.out (by unfold maxLen; omega) (by omega) (by simp) ?_; intro g1 cap1 w1 ho1 hgr1 hat1 hlt1; simp only [Nat.zero_add, List.nil_append] at ho1; have hg1 := (ho1.lt g1 rfl).1; have hbl1 := ((Below.refl (w.heap.size + 3) _).alloc (by simp) _).grown hgr1 (by simp) (fun k e => by simp [Value.ownBlock] at e; omega); obtain ⟨s1, s2, s3, s4, s5⟩ := HFACT.out _ hbl1; obtain ⟨k1, k2⟩ := own_cell ho1 HG1.out; have hne1 : g1 ≠ w.heap.size + 1 := by omega))
  have hBf := (s5.setCell (p := ⟨g1, A.length * 2 + 1, none⟩) (by show w.heap.size ≤ g1; omega) (.bool true)).setCell (p := ⟨w.heap.size + 1, 0, none⟩) (by show w.heap.size ≤ w.heap.size + 1; omega) (.slice (some ⟨g1, 0, none⟩) N cap1)
  refine bodyPost_ret (v := .tuple #[.agg #[.slice (some ⟨g1, 0, none⟩) N cap1], .int .i64 0]) (by simp [results, Try.results21, go_sem, s2, hne1]) rfl ⟨⟨_, _, rfl, ref_close (base := w.heap.size + 3) (n := N) (HI.out.setGone true) hBf HF.out (by omega) ?_⟩, hBf⟩
  exact ownsRow_setCell_other (a := ⟨w.heap.size + 1, 0, none⟩) (ownsRow_setS ho1 (g := g1) rfl _) (by simpa [Value.ownBlock] using hne1) _

end Go.Proofs.Ytbibbdkijgaoeaa
