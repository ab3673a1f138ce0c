/- The two arenas beside one another, while acts are played. -/
import Derived.Test.YtbibbdkijgaoeaaWalkR
set_option linter.unusedVariables false
set_option linter.unusedSimpArgs false
namespace Go.Proofs.Ytbibbdkijgaoeaa
open Go.RowKit Go.Maps

/-- Blocks that the document's arena may lie in. -/
def Off (w : World) (B M Wc : Nat) (rv : Value) (b : Nat) : Prop := ¬ Mine B M rv b ∧ b ≠ Wc ∧ b ≠ w.heap.size

/-- The program's arena (clauses L1) and the document's (clauses L), and where the latter is kept. -/
structure St (w x : World) (B M Wc : Nat) (rv : Value) (a : Option Addr) (cap : Nat) (L L1 : List Itm) : Prop where
  arn : Arn (w.heap.size + 1) x B M rv L1
  ref : Ref (Off w B M Wc rv) x a cap L
  wc : x.heap[Wc]? = some (.cells #[.slice a L.length cap] 28 (0, 0))
  nm : ¬ Mine B M rv Wc
  wl : w.heap.size < Wc
  res : x.heap[w.heap.size]? = some (.cells #[.slice none 0 0] 28 (0, 0))
  bel : Below w.heap.size w x

section
variable {w x x1 : World} {B M Wc : Nat} {rv rv1 : Value} {a a1 : Option Addr} {cap cap1 : Nat} {L L1 : List Itm}

theorem St.ltW (h : St w x B M Wc rv a cap L L1) : Wc < x.heap.size := lt_of_block h.wc
theorem St.ltN (h : St w x B M Wc rv a cap L L1) : w.heap.size < x.heap.size := lt_of_block h.res

theorem St.off (h : St w x B M Wc rv a cap L L1) : ∀ k, x.heap.size ≤ k → Off w B M Wc rv k := fun k hk =>
  ⟨fun hm => by have := (h.arn.lt k hm).2; omega, by have := h.ltW; omega, by have := h.ltN; omega⟩

theorem St.old (h : St w x B M Wc rv a cap L L1) : ∀ k, k < w.heap.size → Off w B M Wc rv k := fun k hk =>
  ⟨fun hm => by have := (h.arn.lt k hm).1; omega, by have := h.wl; omega, by omega⟩

theorem St.below (h : St w x B M Wc rv a cap L L1) (hb : Below x.heap.size x x1) : St w x1 B M Wc rv a cap L L1 :=
  ⟨h.arn.below hb, h.ref.below hb, by rw [hb.block _ h.ltW]; exact h.wc, h.nm, h.wl, by rw [hb.block _ h.ltN]; exact h.res, h.bel.trans (hb.mono h.bel.size)⟩

/-- The program did something. -/
theorem St.prog (h : St w x B M Wc rv a cap L L1) {L2 : List Itm} (hA : Arn (w.heap.size + 1) x1 B M rv1 L2) (hK : Kp (Mine B M rv) x x1) (hf : ∀ k, rv1.ownBlock = some k → rv.ownBlock = some k ∨ x.heap.size ≤ k) : St w x1 B M Wc rv1 a cap L L2 := by
  have hm : ∀ k, k < x.heap.size → ¬ Mine B M rv k → ¬ Mine B M rv1 k := by
    rintro k hk h0 (e | e | e)
    · exact h0 (.inl e)
    · exact h0 (.inr (.inl e))
    · rcases hf k e with e | e
      · exact h0 (.inr (.inr e))
      · omega
  refine ⟨hA, h.ref.kept (fun k hk hF => ⟨hK.block k hk hF.1, hm k hk hF.1, hF.2⟩) hK.size, ?_, hm _ h.ltW h.nm, h.wl, ?_, ?_⟩
  · rw [hK.block _ h.ltW h.nm]; exact h.wc
  · rw [hK.block _ h.ltN (fun hm => by have := (h.arn.lt _ hm).1; omega)]; exact h.res
  · exact ⟨hK.os.trans h.bel.os, hK.tape.trans h.bel.tape, hK.output.trans h.bel.output, Nat.le_trans h.bel.size hK.size, fun k hk => (hK.block k (by have := h.bel.size; omega) (fun hm => by have := (h.arn.lt k hm).1; omega)).trans (h.bel.block k hk)⟩

/-- The document did the same. -/
theorem St.refd (h : St w x B M Wc rv a cap L L1) (hb : Below x.heap.size x x1) {L2 : List Itm} (hR : Ref (Off w B M Wc rv) x1 a1 cap1 L2) (n : Nat) (hn : n = L2.length) : St w (x1.setCell ⟨Wc, 0, none⟩ (.slice a1 n cap1)) B M Wc rv a1 cap1 L2 L1 := by
  subst hn
  have h1 := h.below hb
  refine ⟨h1.arn.same (fun k hk => Below.heap_setCell _ _ _ _ (fun e => h.nm (by have e' : k = Wc := e; rw [← e']; exact hk))), hR.kept (fun k hk hF => ⟨Below.heap_setCell _ _ _ _ hF.2.1, hF⟩) (by rw [size_setCell]; exact Nat.le_refl _), one_setCell h1.wc, h.nm, h.wl, ?_, h1.bel.setCell (by show w.heap.size ≤ Wc; have := h.wl; omega) _⟩
  rw [Below.heap_setCell _ _ _ _ (by have := h.wl; show w.heap.size ≠ Wc; omega)]; exact h1.res

theorem St.cells (h : St w x B M Wc rv a cap L L1) : x.cell? ⟨Wc, 0, none⟩ = some (.slice a L.length cap) ∧ x.frozen? ⟨Wc, 0, none⟩ = false ∧ x.cell? ⟨w.heap.size, 0, none⟩ = some (.slice none 0 0) ∧ x.frozen? ⟨w.heap.size, 0, none⟩ = false :=
  ⟨cell_of_one h.wc, free_of_one h.wc, cell_of_one h.res, free_of_one h.res⟩

theorem St.kept (h : St w x B M Wc rv a cap L L1) {y : World} {o : Obj} (hK : Kp (Mine B M rv) (x.alloc o) y) : y.heap[x.heap.size]? = some o := by
  rw [hK.block _ (by simp) (fun hm => by have := (h.arn.lt _ hm).2; omega)]; exact heap_alloc_new x o

theorem rowF_old (h : St w x B M Wc rv a cap L L1) {ca : Option Addr} {c : List Int} (hr : Row w ca c) : RowF (Off w B M Wc rv) x ca c := fun i hi => by
  obtain ⟨b, off, e, hb, hc⟩ := hr i hi
  exact ⟨b, off, e, by have := h.bel.size; omega, h.old b hb, by rw [h.bel.cell (p := ⟨b, off + i, none⟩) hb]; exact hc⟩

theorem sep_old (h : St w x B M Wc rv a cap L L1) {ca : Option Addr} {c : List Int} (hr : Row w ca c) : ∀ b off, ca = some ⟨b, off, none⟩ → 0 < c.length → ¬ Mine B M rv b := fun b off e hp => by
  obtain ⟨b', off', e', hb, _⟩ := hr 0 hp
  rw [e] at e'
  simp at e'
  obtain ⟨rfl, _⟩ := e'
  exact (h.old b hb).1
end

/-! What each act leaves, the program's part and the document's. -/
section
variable {w x : World} {B M Wc : Nat} {rv : Value} {a : Option Addr} {cap : Nat} {L : List Itm}

theorem st_add (h : St w x B M Wc rv a cap L L) (hl : words L ≤ 20000) {ca : Option Addr} {cc : Nat} {c : List Int} (hr : Row w ca c) (hc : c.length ≤ 300) (hcn : ca = none → cc = 0) (hmay : mayB c 1048576 = true) :
    Calls Try.prog 17 #[.pointer (some ⟨B, 0, none⟩), .slice ca c.length cc] x fun e x1 => e = .returned (.tuple #[.int .i64 (words L), .int .i64 0]) ∧ Kp (Mine B M rv) x x1 ∧ ∃ rv1, St w x1 B M Wc rv1 a cap L (L ++ [(c, false)]) := by
  refine (add_yes (w.heap.size + 1) x B M rv L ca cc c h.arn hl (rowF_old h hr).row (by omega) hcn hmay (sep_old h hr) (by have := h.ltN; omega)).mono ?_
  rintro e x1 ⟨rfl, rv1, h1, h2, h3⟩
  exact ⟨rfl, h2, rv1, h.prog h1 h2 h3⟩

theorem st_add' {L1 : List Itm} (h : St w x B M Wc rv a cap L L1) (hl : words L ≤ 20000) {ca : Option Addr} {cc : Nat} {c : List Int} (hr : Row w ca c) (hc : c.length ≤ 300) (hcn : ca = none → cc = 0) (hmay : mayB c 1048576 = true) :
    Calls Try.prog 19 #[.agg #[.slice a L.length cap], .slice ca c.length cc] x fun e x1 => ∃ a1 cap1, e = .returned (.tuple #[.agg #[.slice a1 (L.length + 1) cap1], .int .i64 (words L), .int .i64 0]) ∧ St w x1 B M Wc rv a cap L L1 ∧ St w (x1.setCell ⟨Wc, 0, none⟩ (.slice a1 (L.length + 1) cap1)) B M Wc rv a1 cap1 (L ++ [(c, false)]) L1 := by
  refine (refAdd_yes _ x a cap L ca cc c h.ref hl (rowF_old h hr) hcn (by omega) hmay h.off).mono ?_
  rintro e x1 ⟨⟨a1, cap1, rfl, hR⟩, hb⟩
  exact ⟨a1, cap1, rfl, h.below hb, h.refd hb hR _ (by simp)⟩

theorem st_addno (h : St w x B M Wc rv a cap L L) {ca : Option Addr} {cc : Nat} {c : List Int} (hr : Row w ca c) (hc : c.length ≤ 300) (hmay : mayB c 1048576 = false) :
    Calls Try.prog 17 #[.pointer (some ⟨B, 0, none⟩), .slice ca c.length cc] x (fun e x1 => e = .returned (.tuple #[.int .i64 0, .int .i64 1]) ∧ x1 = x) ∧
    Calls Try.prog 19 #[.agg #[.slice a L.length cap], .slice ca c.length cc] x (fun e x1 => e = .returned (.tuple #[.agg #[.slice a L.length cap], .int .i64 0, .int .i64 1]) ∧ St w x1 B M Wc rv a cap L L) := by
  refine ⟨add_no (w.heap.size + 1) x B M rv L ca cc c (rowF_old h hr).row (by unfold maxLen; omega) hmay, (refAdd_no (fun _ => True) x a cap L ca cc c (rowF_old h hr).row (by omega) hmay).mono ?_⟩
  rintro e x1 ⟨rfl, hb⟩
  exact ⟨rfl, h.below hb⟩

theorem st_dropno (h : St w x B M Wc rv a cap L L) (hl : words L ≤ 20000) {p : Int} (hp : (Lit.int .i64 p).wf = true) (hno : p ∉ plF 0 L) :
    Calls Try.prog 20 #[.pointer (some ⟨B, 0, none⟩), .int .i64 p] x (fun e x1 => e = .returned (.int .i64 4) ∧ Kp (Mine B M rv) x x1 ∧ St w x1 B M Wc rv a cap L L) := by
  refine (drop_no (w.heap.size + 1) x B M rv L p h.arn hp hno).mono ?_
  rintro e x1 ⟨rfl, hb⟩
  exact ⟨rfl, Kp.of_below hb, h.below hb⟩
theorem st_dropno' (h : St w x B M Wc rv a cap L L) (hl : words L ≤ 20000) {p : Int} (hno : p ∉ plF 0 L) :
    Calls Try.prog 21 #[.agg #[.slice a L.length cap], .int .i64 p] x (fun e x1 => e = .returned (.tuple #[.agg #[.slice a L.length cap], .int .i64 4]) ∧ St w x1 B M Wc rv a cap L L) := by
  refine (refDrop_no _ x a cap L p h.ref hl hno).mono ?_
  rintro e x1 ⟨rfl, hb⟩
  exact ⟨rfl, h.below hb⟩

theorem st_drop {A R : List Itm} {it : Itm} (h : St w x B M Wc rv a cap (A ++ it :: R) (A ++ it :: R)) (hl : words (A ++ it :: R) ≤ 20000) (hit : it.2 = false) :
    Calls Try.prog 20 #[.pointer (some ⟨B, 0, none⟩), .int .i64 (words A)] x (fun e x1 => e = .returned (.int .i64 0) ∧ Kp (Mine B M rv) x x1 ∧ St w x1 B M Wc rv a cap (A ++ it :: R) (A ++ (it.1, true) :: R)) := by
  refine (drop_yes (w.heap.size + 1) x B M rv A R it h.arn hl hit).mono ?_
  rintro e x1 ⟨rfl, h1, h2⟩
  exact ⟨rfl, h2, h.prog h1 h2 (fun k e => .inl e)⟩
theorem st_drop' {A R L1 : List Itm} {it : Itm} (h : St w x B M Wc rv a cap (A ++ it :: R) L1) (hl : words (A ++ it :: R) ≤ 20000) (hit : it.2 = false) :
    Calls Try.prog 21 #[.agg #[.slice a (A ++ it :: R).length cap], .int .i64 (words A)] x (fun e x1 => ∃ a1 cap1, e = .returned (.tuple #[.agg #[.slice a1 (A ++ it :: R).length cap1], .int .i64 0]) ∧ St w x1 B M Wc rv a cap (A ++ it :: R) L1 ∧ St w (x1.setCell ⟨Wc, 0, none⟩ (.slice a1 (A ++ it :: R).length cap1)) B M Wc rv a1 cap1 (A ++ (it.1, true) :: R) L1) := by
  refine (refDrop_yes _ x a cap A R it h.ref hl hit h.off).mono ?_
  rintro e x1 ⟨⟨a1, cap1, rfl, hR⟩, hb⟩
  exact ⟨a1, cap1, rfl, h.below hb, h.refd hb hR _ (by simp)⟩

theorem st_swapno (h : St w x B M Wc rv a cap L L) {p i j : Int} (hp : (Lit.int .i64 p).wf = true) (hno : p ∉ plF 0 L) :
    Calls Try.prog 22 #[.pointer (some ⟨B, 0, none⟩), .int .i64 p, .int .i64 i, .int .i64 j] x (fun e x1 => e = .returned (.int .i64 4) ∧ Kp (Mine B M rv) x x1 ∧ St w x1 B M Wc rv a cap L L) := by
  refine (swap_no (w.heap.size + 1) x B M rv L p i j h.arn hp hno).mono ?_
  rintro e x1 ⟨rfl, hb⟩
  exact ⟨rfl, Kp.of_below hb, h.below hb⟩
theorem st_swapno' (h : St w x B M Wc rv a cap L L) (hl : words L ≤ 20000) {p i j : Int} (hno : p ∉ plF 0 L) :
    Calls Try.prog 23 #[.agg #[.slice a L.length cap], .int .i64 p, .int .i64 i, .int .i64 j] x (fun e x1 => e = .returned (.tuple #[.agg #[.slice a L.length cap], .int .i64 4]) ∧ St w x1 B M Wc rv a cap L L) := by
  refine (refSwap_no _ x a cap L p i j h.ref hl hno).mono ?_
  rintro e x1 ⟨rfl, hb⟩
  exact ⟨rfl, h.below hb⟩
theorem st_swaparg {A R : List Itm} {it : Itm} (h : St w x B M Wc rv a cap (A ++ it :: R) (A ++ it :: R)) (hl : words (A ++ it :: R) ≤ 20000) (hit : it.2 = false) {i j : Int} (hbad : i < 0 ∨ j < 0 ∨ it.1.length ≤ i ∨ it.1.length ≤ j) :
    Calls Try.prog 22 #[.pointer (some ⟨B, 0, none⟩), .int .i64 (words A), .int .i64 i, .int .i64 j] x (fun e x1 => e = .returned (.int .i64 1) ∧ Kp (Mine B M rv) x x1 ∧ St w x1 B M Wc rv a cap (A ++ it :: R) (A ++ it :: R)) := by
  refine (swap_arg (w.heap.size + 1) x B M rv A R it i j h.arn hl hit hbad).mono ?_
  rintro e x1 ⟨rfl, hb⟩
  exact ⟨rfl, Kp.of_below hb, h.below hb⟩
theorem st_swaparg' {A R : List Itm} {it : Itm} (h : St w x B M Wc rv a cap (A ++ it :: R) (A ++ it :: R)) (hl : words (A ++ it :: R) ≤ 20000) (hit : it.2 = false) {i j : Int} (hbad : i < 0 ∨ j < 0 ∨ it.1.length ≤ i ∨ it.1.length ≤ j) :
    Calls Try.prog 23 #[.agg #[.slice a (A ++ it :: R).length cap], .int .i64 (words A), .int .i64 i, .int .i64 j] x (fun e x1 => e = .returned (.tuple #[.agg #[.slice a (A ++ it :: R).length cap], .int .i64 1]) ∧ St w x1 B M Wc rv a cap (A ++ it :: R) (A ++ it :: R)) := by
  refine (refSwap_arg _ x a cap A R it i j h.ref hl hit hbad).mono ?_
  rintro e x1 ⟨rfl, hb⟩
  exact ⟨rfl, h.below hb⟩
theorem st_swap {A R : List Itm} {c : List Int} (h : St w x B M Wc rv a cap (A ++ (c, false) :: R) (A ++ (c, false) :: R)) (hl : words (A ++ (c, false) :: R) ≤ 20000) {i j : Nat} (hi : i < c.length) (hj : j < c.length) :
    Calls Try.prog 22 #[.pointer (some ⟨B, 0, none⟩), .int .i64 (words A), .int .i64 i, .int .i64 j] x (fun e x1 => e = .returned (.int .i64 0) ∧ Kp (Mine B M rv) x x1 ∧ St w x1 B M Wc rv a cap (A ++ (c, false) :: R) (A ++ (swapL c i j, false) :: R)) := by
  refine (swap_yes (w.heap.size + 1) x B M rv A R c i j h.arn hl hi hj).mono ?_
  rintro e x1 ⟨rfl, h1, h2⟩
  exact ⟨rfl, h2, h.prog h1 h2 (fun k e => .inl e)⟩
theorem st_swap' {A R L1 : List Itm} {c : List Int} (h : St w x B M Wc rv a cap (A ++ (c, false) :: R) L1) (hl : words (A ++ (c, false) :: R) ≤ 20000) {i j : Nat} (hi : i < c.length) (hj : j < c.length) :
    Calls Try.prog 23 #[.agg #[.slice a (A ++ (c, false) :: R).length cap], .int .i64 (words A), .int .i64 i, .int .i64 j] x (fun e x1 => ∃ a1 cap1, e = .returned (.tuple #[.agg #[.slice a1 (A ++ (c, false) :: R).length cap1], .int .i64 0]) ∧ St w x1 B M Wc rv a cap (A ++ (c, false) :: R) L1 ∧ St w (x1.setCell ⟨Wc, 0, none⟩ (.slice a1 (A ++ (c, false) :: R).length cap1)) B M Wc rv a1 cap1 (A ++ (swapL c i j, false) :: R) L1) := by
  refine (refSwap_yes _ x a cap A R c i j h.ref hl hi hj h.off).mono ?_
  rintro e x1 ⟨⟨a1, cap1, rfl, hR⟩, hb⟩
  exact ⟨a1, cap1, rfl, h.below hb, h.refd hb hR _ (by simp)⟩

theorem st_pack (h : St w x B M Wc rv a cap L L) (hl : words L ≤ 20000) :
    Calls Try.prog 14 #[.pointer (some ⟨B, 0, none⟩)] x (fun e x1 => ∃ v, e = .returned v ∧ Mvs x.heap.size x1 v (mvs L) ∧ ∃ rv1, St w x1 B M Wc rv1 a cap L (keepL L)) := by
  refine (pack_any (w.heap.size + 1) x B M rv L h.arn hl (by have := h.ltN; omega)).mono ?_
  rintro e x1 ⟨v, rfl, h1, ⟨rv1, h2, h3⟩, h4⟩
  exact ⟨v, rfl, h1, rv1, h.prog h2 h4 (fun k e => .inl (h3 ▸ e))⟩
theorem st_pack' {L1 : List Itm} (h : St w x B M Wc rv a cap L L1) (hl : words L ≤ 20000) :
    Calls Try.prog 24 #[.agg #[.slice a L.length cap]] x (fun e x1 => ∃ a1 cap1 v, e = .returned (.tuple #[.agg #[.slice a1 (keepL L).length cap1], v]) ∧ Mvs x.heap.size x1 v (mvs L) ∧ Below x.heap.size x x1 ∧ St w x1 B M Wc rv a cap L L1 ∧ St w (x1.setCell ⟨Wc, 0, none⟩ (.slice a1 (keepL L).length cap1)) B M Wc rv a1 cap1 (keepL L) L1) := by
  refine (refPack_any _ x a cap L h.ref hl h.off).mono ?_
  rintro e x1 ⟨⟨a1, cap1, v, rfl, hR, hm⟩, hb⟩
  exact ⟨a1, cap1, v, rfl, hm, hb, h.below hb, h.refd hb hR _ rfl⟩
end

/-- Moves as they lie in memory. -/
theorem Mvs.at {base : Nat} {w : World} {v : Value} {ms : List (Int × Int)} (h : Mvs base w v ms) : ∃ a cap, v = .slice a ms.length cap ∧ ms.length ≤ maxLen ∧ ∀ i (hi : i < ms.length), ∃ b, a = some ⟨b, 0, none⟩ ∧ base ≤ b ∧ b < w.heap.size ∧ w.cell? ⟨b, i * 2, none⟩ = some (.int .i64 ms[i].1) ∧ w.cell? ⟨b, i * 2 + 1, none⟩ = some (.int .i64 ms[i].2) := by
  unfold Mvs at h
  have hget : ∀ (l : List (Int × Int)) i (hi : i < l.length), (mvCells l)[i * 2]? = some (.int .i64 l[i].1) ∧ (mvCells l)[i * 2 + 1]? = some (.int .i64 l[i].2) := by
    intro l
    induction l with
    | nil => intro i hi; simp at hi
    | cons m l ih =>
      intro i hi
      cases i with
      | zero => simp [mvCells]
      | succ i =>
        have := ih i (by simpa using hi)
        rw [show (i + 1) * 2 = i * 2 + 1 + 1 by omega]
        simpa [mvCells] using this
  rcases h.2 with ⟨rfl, h0⟩ | ⟨g, cap, cur, rfl, hb, hg, hn, hm, _⟩
  · exact ⟨none, 0, by rw [h0], by rw [h0]; exact Nat.zero_le _, fun i hi => by omega⟩
  · refine ⟨_, cap, rfl, Nat.le_trans hn hm, fun i hi => ⟨g, rfl, hb, lt_of_block hg, (own_cell h (hget ms i hi).1).1, (own_cell h (hget ms i hi).2).1⟩⟩

end Go.Proofs.Ytbibbdkijgaoeaa
