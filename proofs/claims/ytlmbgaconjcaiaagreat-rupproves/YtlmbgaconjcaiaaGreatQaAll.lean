/- Joined: Rows of rows, of which no block is one that was laid later, unless it holds slices. Contract: the document's step that may not be done, with the room of what it tells. Contract: the document's step that takes a clause away, with the room of what it tells. -/
import Derived.Test.YtlmbgaconjcaiaaGreatWfAll
import Derived.Test.YtlmbgaconjcaiaaGreatWjAll
set_option linter.unusedVariables false
set_option linter.unusedSimpArgs false
namespace Go.Proofs.YtlmbgaconjcaiaaGreat
open Go.RowKit

def RowN (N : Nat) (w : World) (a : Option Addr) (xs : List Int) : Prop := ∀ i (h : i < xs.length), ∃ b off, a = some ⟨b, off, none⟩ ∧ b < N ∧ b < w.heap.size ∧ w.cell? ⟨b, off + i, none⟩ = some (.int .i64 xs[i])
def GridN (N : Nat) (w : World) (a : Option Addr) (css : List (List Int)) : Prop :=
  ∀ i (h : i < css.length), ∃ b off ai ci, a = some ⟨b, off, none⟩ ∧ (b < N ∨ ∃ cur, w.heap[b]? = some (.cells cur 25 (0, 0))) ∧ b < w.heap.size ∧ w.cell? ⟨b, off + i, none⟩ = some (.slice ai css[i].length ci) ∧ RowN N w ai css[i] ∧ css[i].length ≤ maxLen
structure VN (N : Nat) (w : World) (vs : List Value) (css : List (List Int)) : Prop where
  len : vs.length = css.length
  row : ∀ i (h : i < css.length), ∃ ai ci, vs[i]? = some (.slice ai css[i].length ci) ∧ RowN N w ai css[i] ∧ css[i].length ≤ maxLen
section
variable {N : Nat} {w w' : World} {a : Option Addr} {css : List (List Int)} {vs : List Value} {c : List Int}
theorem RowN.row (h : RowN N w a c) : Row w a c := fun i hi => by
  obtain ⟨b, off, e, _, hb, hc⟩ := h i hi
  exact ⟨b, off, e, hb, hc⟩
theorem RowN.stay (h : RowN N w a c) (hk : ∀ b, b < N → w'.heap[b]? = w.heap[b]?) (hs : w.heap.size ≤ w'.heap.size) : RowN N w' a c := fun i hi => by
  obtain ⟨b, off, e, h1, h2, hc⟩ := h i hi
  exact ⟨b, off, e, h1, Nat.lt_of_lt_of_le h2 hs, (World.cell?_of_block (a := ⟨b, off + i, none⟩) (hk b h1)).trans hc⟩
theorem row_N (h : Row w a c) : RowN w.heap.size w a c := fun i hi => by
  obtain ⟨b, off, e, hb, hc⟩ := h i hi
  exact ⟨b, off, e, hb, hb, hc⟩
theorem GridN.grid (h : GridN N w a css) : Grid w a css := fun i hi => by
  obtain ⟨b, off, ai, ci, e, _, hb, hc, hr, hl⟩ := h i hi
  exact ⟨b, off, ai, ci, e, hb, hc, hr.row, hl⟩
theorem grid_N (h : Grid w a css) : GridN w.heap.size w a css := fun i hi => by
  obtain ⟨b, off, ai, ci, e, hb, hc, hr, hl⟩ := h i hi
  exact ⟨b, off, ai, ci, e, .inl hb, hb, hc, row_N hr, hl⟩
theorem GridN.stay (h : GridN N w a css) (hk : ∀ b, b < N → w'.heap[b]? = w.heap[b]?) (h25 : ∀ (b : Nat) (cur : Array Value), w.heap[b]? = some (.cells cur 25 (0, 0)) → w'.heap[b]? = w.heap[b]?) (hs : w.heap.size ≤ w'.heap.size) : GridN N w' a css := fun i hi => by
  obtain ⟨b, off, ai, ci, e, hq, hb, hc, hr, hl⟩ := h i hi
  have hkb : w'.heap[b]? = w.heap[b]? := by
    rcases hq with hq | ⟨cur, hq⟩
    · exact hk b hq
    · exact h25 b cur hq
  refine ⟨b, off, ai, ci, e, ?_, Nat.lt_of_lt_of_le hb hs, (World.cell?_of_block (a := ⟨b, off + i, none⟩) hkb).trans hc, hr.stay hk hs, hl⟩
  rcases hq with hq | ⟨cur, hq⟩
  · exact .inl hq
  · exact .inr ⟨cur, hkb.trans hq⟩
theorem GridN.below (h : GridN N w a css) (hb : Below w.heap.size w w') (hN : N ≤ w.heap.size) : GridN N w' a css :=
  h.stay (fun b hl => hb.block b (by omega)) (fun b cur hc => hb.block b (lt_of_block hc)) hb.size
theorem RowN.below (h : RowN N w a c) (hb : Below w.heap.size w w') (hN : N ≤ w.heap.size) : RowN N w' a c := h.stay (fun b hl => hb.block b (by omega)) hb.size
theorem gridN_vals (h : GridN N w a css) (hv : Vals w vs css) (hsrc : (a = none ∧ css.length = 0 ∧ vs = []) ∨ (css = [] ∧ vs = []) ∨ ∃ b off, a = some ⟨b, off, none⟩ ∧ b < w.heap.size ∧ ∀ j u, vs[j]? = some u → w.cell? ⟨b, off + j, none⟩ = some u) : VN N w vs css := by
  refine ⟨hv.len, fun i hi => ?_⟩
  rcases hsrc with ⟨_, e, _⟩ | ⟨e, _⟩ | ⟨b, off, e, _, hc⟩
  · omega
  · rw [e] at hi; simp at hi
  · obtain ⟨b', off', ai, ci, e', _, _, hc', hr, hl⟩ := h i hi
    rw [e] at e'
    cases e'
    have hi2 : i < vs.length := by rw [hv.len]; exact hi
    have := hc i vs[i] (List.getElem?_eq_getElem hi2)
    rw [hc'] at this
    refine ⟨ai, ci, ?_, hr, hl⟩
    rw [List.getElem?_eq_getElem hi2]
    exact this.symm
theorem VN.stay (h : VN N w vs css) (hk : ∀ b, b < N → w'.heap[b]? = w.heap[b]?) (hs : w.heap.size ≤ w'.heap.size) : VN N w' vs css :=
  ⟨h.len, fun i hi => by
    obtain ⟨ai, ci, e, hr, hl⟩ := h.row i hi
    exact ⟨ai, ci, e, hr.stay hk hs, hl⟩⟩
theorem VN.snoc (h : VN N w vs css) {ac : Option Addr} {cac : Nat} (hr : RowN N w ac c) (hl : c.length ≤ maxLen) : VN N w (vs ++ [.slice ac c.length cac]) (css ++ [c]) := by
  refine ⟨by simp [h.len], fun i hi => ?_⟩
  by_cases e : i < css.length
  · obtain ⟨ai, ci, e1, h1, h2⟩ := h.row i e
    refine ⟨ai, ci, ?_, ?_, ?_⟩
    · rw [List.getElem?_append_left (by rw [h.len]; exact e), List.getElem_append_left e]; exact e1
    · rw [List.getElem_append_left e]; exact h1
    · rw [List.getElem_append_left e]; exact h2
  · have hi2 : i = css.length := by simp at hi; omega
    subst hi2
    refine ⟨ac, cac, ?_, ?_, ?_⟩
    · rw [List.getElem?_append_right (by rw [h.len]; omega)]; simp [h.len]
    · simpa using hr
    · simpa using hl
theorem VN.part (h : VN N w vs css) (i : Nat) : VN N w (vs.take i ++ vs.drop (i + 1)) (css.take i ++ css.drop (i + 1)) := by
  have hl := h.len
  refine ⟨by simp; omega, fun j hj => ?_⟩
  by_cases e : j < (css.take i).length
  · have e2 : j < css.length := by simp at e; omega
    obtain ⟨ai, ci, e1, h1, h2⟩ := h.row j e2
    have e3 : j < (vs.take i).length := by simp at e ⊢; omega
    rw [List.getElem_append_left e, List.getElem?_append_left e3, List.getElem_take, List.getElem?_take_of_lt (by simp at e; omega)]
    exact ⟨ai, ci, e1, h1, h2⟩
  · have hj' : j < (css.take i).length + (css.drop (i + 1)).length := by simpa using hj
    simp at e hj'
    have hil : i < css.length := by omega
    have e0 : (css.take i).length = i := by simp; omega
    have e0' : (vs.take i).length = i := by simp; omega
    have e2 : (i + 1) + (j - i) < css.length := by omega
    obtain ⟨ai, ci, e1, h1, h2⟩ := h.row _ e2
    rw [List.getElem_append_right (by omega), List.getElem?_append_right (by omega)]
    simp only [e0, e0', List.getElem_drop, List.getElem?_drop]
    exact ⟨ai, ci, e1, h1, h2⟩
theorem VN.gridN (h : VN N w' vs css) {base g n cap : Nat} (ho : w'.ownsRow base 25 1 (.slice (some ⟨g, 0, none⟩) n cap) n vs) : GridN N w' (some ⟨g, 0, none⟩) css := by
  intro i hi
  obtain ⟨ai, ci, e, hr, hl⟩ := h.row i hi
  have hlt := ((World.ownsRow.lt ho) g rfl).2
  refine ⟨g, 0, ai, ci, rfl, .inr ?_, hlt, by rw [Nat.zero_add]; exact own_cell (i := i) ho rfl e, hr, hl⟩
  rcases ho.2 with ⟨e', _⟩ | ⟨g', c', cur, e', hb', hg', r⟩
  · cases e'
  · cases e'; exact ⟨cur, hg'⟩
theorem GrM.finN {wc x : World} {n V g cp m X : Nat} {f u : Value} (h : GrM w wc vs n V f u X g cp m x) (hv : VN N w vs css) (hN : N ≤ w.heap.size) (u1 u2 : Value) :
    GridN N ((x.setCell ⟨w.heap.size + 1 + 1, 0, none⟩ u1).setCell ⟨w.heap.size + 1 + 1, 1, none⟩ u2) (some ⟨g, 0, none⟩) css ∧ Below w.heap.size w ((x.setCell ⟨w.heap.size + 1 + 1, 0, none⟩ u1).setCell ⟨w.heap.size + 1 + 1, 1, none⟩ u2) := by
  have hb2 : Below w.heap.size w ((x.setCell ⟨w.heap.size + 1 + 1, 0, none⟩ u1).setCell ⟨w.heap.size + 1 + 1, 1, none⟩ u2) := (h.bd.bel.setCell (by simp; omega) _).setCell (by simp; omega) _
  refine ⟨(hv.stay (fun b hl => hb2.block b (by omega)) hb2.size).gridN (base := wc.heap.size) (n := n) (cap := cp) ?_, hb2⟩
  have a := h.ge
  have b := h.n2
  rcases h.own.2 with ⟨e', _⟩ | ⟨g', c', cur, e', hb', hg', r⟩
  · cases e'
  · cases e'
    have hne : g ≠ w.heap.size + 1 + 1 := by omega
    exact ⟨h.own.1, .inr ⟨g, cp, cur, rfl, hb', ((hd_far hne).trans (hd_far hne)).trans hg', r⟩⟩
theorem del_finN {w3 x : World} {k g n cp : Nat} {u1 u2 : Value} (hv : VN N w vs css) (hN : N ≤ w.heap.size) (ho : x.ownsRow w3.heap.size 25 1 (.slice (some ⟨g, 0, none⟩) n cp) n (vs.take k ++ vs.drop (k + 1))) (hb : Below w.heap.size w x) (h3 : w.heap.size + 1 + 1 < w3.heap.size) :
    GridN N ((x.setCell ⟨w.heap.size + 1 + 1, 0, none⟩ u1).setCell ⟨w.heap.size + 1 + 1, 1, none⟩ u2) (some ⟨g, 0, none⟩) (css.take k ++ css.drop (k + 1)) ∧ Below w.heap.size w ((x.setCell ⟨w.heap.size + 1 + 1, 0, none⟩ u1).setCell ⟨w.heap.size + 1 + 1, 1, none⟩ u2) := by
  have hb2 : Below w.heap.size w ((x.setCell ⟨w.heap.size + 1 + 1, 0, none⟩ u1).setCell ⟨w.heap.size + 1 + 1, 1, none⟩ u2) := (hb.setCell (by simp; omega) _).setCell (by simp; omega) _
  refine ⟨((hv.stay (fun b hl => hb2.block b (by omega)) hb2.size).part k).gridN (base := w3.heap.size) (n := n) (cap := cp) ?_, hb2⟩
  rcases ho.2 with ⟨e', _⟩ | ⟨g', c', cur, e', hb', hg', r⟩
  · cases e'
  · cases e'
    have hne : g ≠ w.heap.size + 1 + 1 := by omega
    exact ⟨ho.1, .inr ⟨g, cp, cur, rfl, hb', ((Below.heap_setCell _ _ _ _ hne).trans (Below.heap_setCell _ _ _ _ hne)).trans hg', r⟩⟩
end
end Go.Proofs.YtlmbgaconjcaiaaGreat

namespace Go.Proofs.YtlmbgaconjcaiaaGreat
open Go.RowKit

/-- What the document's step tells, as it lies in memory, with its room. -/
def DocQ (N : Nat) (w : World) (V : Nat) (css : List (List Int)) (d : Bool) (c : List Int) (e : Ending) (w' : World) : Prop :=
  ∃ av cv, e = .returned (.tuple #[.agg #[.int .i64 (docX V css d c : Nat), .slice av (docC css d c).length cv], .int .i64 (docE css d c)]) ∧ GridN N w' av (docC css d c) ∧ Below w.heap.size w w' ∧ (av = none → cv = 0) ∧ (docC css d c).length ≤ cv ∧ cv ≤ maxLen

set_option maxHeartbeats 4000000 in
set_option maxRecDepth 100000 in
theorem refDoQ_bad (a ac : Option Addr) (cap cac : Nat) (V : Nat) (css : List (List Int)) (c : List Int) (w : World) {N : Nat} (hNN : N ≤ w.heap.size) (hgN : GridN N w a css) (han : a = none → cap = 0) (hcap : css.length ≤ cap) (hcm : cap ≤ maxLen) (hl : css.length ≤ 900) (hrN : RowN N w ac c) (hlc : c.length ≤ 4096) (hc : cnfB V css = true) (hm : mayB c 1048576 = true) (hno : (refU css c || refF css c) = false) :
    Calls Tryz.prog 18 #[.agg #[.int .i64 V, .slice a css.length cap], .agg #[.bool false, .slice ac c.length cac]] w (DocQ N w V css false c) := by
  have hg : Grid w a css := hgN.grid
  have hr : Row w ac c := hrN.row
  have HGN := hide hgN
  have HRN := hide hrN
  clear hgN hrN
  have hV : V ≤ 1048576 := by
    unfold cnfB at hc
    simp only [Bool.and_eq_true, decide_eq_true_eq] at hc
    omega
  have hlt := cnf_lt hc
  have hls : ∀ x ∈ c, -1048576 ≤ x ∧ x ≤ 1048576 := fun x hx => (may_lits hm x hx).2
  simp only [Bool.or_eq_false_iff] at hno
  have GU : Hid (∀ x, Bd w V (.slice a css.length cap) false (.slice ac c.length cac) x → Calls Tryz.prog 13 #[.slice a css.length cap, .slice ac c.length cac] x fun e w' => e = .returned (.bool false) ∧ Hid (Bd w V (.slice a css.length cap) false (.slice ac c.length cac) w')) := by
    intro x hx
    refine (refUnit7_any a ac cap cac css c V x (hg.below hx.bel) (hr.below hx.bel) (by omega) hV (fun d hd => ⟨by have := (hlt d hd).1; omega, (hlt d hd).2⟩) (by omega) hls).mono ?_
    rintro e w' ⟨rfl, hb⟩
    exact ⟨by rw [hno.1], hx.below hb⟩
  have GF : Hid (∀ x, Bd w V (.slice a css.length cap) false (.slice ac c.length cac) x → Calls Tryz.prog 14 #[.slice a css.length cap, .slice ac c.length cac] x fun e w' => e = .returned (.bool false) ∧ Hid (Bd w V (.slice a css.length cap) false (.slice ac c.length cac) w')) := by
    intro x hx
    refine (refFirst7_any a ac cap cac css c V x (hg.below hx.bel) (hr.below hx.bel) (by omega) hV hlt (by omega) hls).mono ?_
    rintro e w' ⟨rfl, hb⟩
    exact ⟨by rw [hno.2], hx.below hb⟩
  have HX := hide (bd_of w V (.slice a css.length cap) false (.slice ac c.length cac))
  have hne : ((css.length : Int) == 262144) = false := by simp; omega
  have e1 : docX V css false c = V := by simp [docX, hno]
  have e2 : docC css false c = css := by simp [docC, hno]
  have e3 : docE css false c = 7 := by simp [docE, hno]
  have HE := hide (And.intro e1 (And.intro e2 e3))
  have HG := hide hg
  have HCP : Hid ((a = none → cap = 0) ∧ css.length ≤ cap ∧ cap ≤ maxLen) := ⟨han, hcap, hcm⟩
  clear e1 e2 e3 hg hr hc hm hno hlt hls han hcap hcm
  go_enter Tryz.func18, Tryz.ntmps18
  go_wp2_with (first | (go_at_call 13; refine (GU.out _ HX.out).mono ?_; rintro e w1 ⟨rfl, H1⟩; have q0 := H1.out.f1; have q1 := H1.out.s1) | (go_at_call 14; refine (GF.out _ H1.out).mono ?_; rintro e w2 ⟨rfl, H2⟩; have p0 := H2.out.f0; have p1 := H2.out.f1; have y0 := H2.out.y0; have y1 := H2.out.y1; have z0 := H2.out.z0; have z1 := H2.out.z1))
  have HB2 : Hid (Below w.heap.size w ((w2.setCell ⟨w.heap.size + 1 + 1, 0, none⟩ (.int .i64 V)).setCell ⟨w.heap.size + 1 + 1, 1, none⟩ (.slice a css.length cap))) :=
    (H2.out.bel.setCell (by simp; omega) _).setCell (by simp; omega) _
  refine bodyPost_ret (v := .tuple #[.agg #[.int .i64 V, .slice a css.length cap], .int .i64 7]) (by simp [results, Tryz.results18, go_sem, y0, y1]) rfl ?_
  unfold DocQ
  rw [HE.out.1, HE.out.2.1, HE.out.2.2]
  exact ⟨a, cap, rfl, HGN.out.below HB2.out hNN, HB2.out, HCP.out⟩
end Go.Proofs.YtlmbgaconjcaiaaGreat

namespace Go.Proofs.YtlmbgaconjcaiaaGreat
open Go.RowKit

theorem own_room {w : World} {base n sz g cap : Nat} {e : TypeId} {xs : List Value} (h : w.ownsRow base e sz (.slice (some ⟨g, 0, none⟩) n cap) n xs) : n ≤ cap ∧ cap ≤ maxLen := by
  obtain ⟨a, c, ev, h1, h2, _⟩ := own_form h
  simp at ev
  obtain ⟨_, rfl⟩ := ev
  exact ⟨h1, h2⟩

set_option maxHeartbeats 4000000 in
set_option maxRecDepth 100000 in
theorem refDoQ_del (a ac : Option Addr) (cap cac : Nat) (V : Nat) (css : List (List Int)) (c : List Int) (w : World) {N : Nat} (hNN : N ≤ w.heap.size) (hgN : GridN N w a css) (han : a = none → cap = 0) (hcap : css.length ≤ cap) (hcm : cap ≤ maxLen) (hl : css.length ≤ 900) (hrN : RowN N w ac c) (hlc : c.length ≤ 4096) (hc : cnfB V css = true) (hm : mayB c 1048576 = true) :
    Calls Tryz.prog 18 #[.agg #[.int .i64 V, .slice a css.length cap], .agg #[.bool true, .slice ac c.length cac]] w (DocQ N w V css true c) := by
  have hg : Grid w a css := hgN.grid
  have hr : Row w ac c := hrN.row
  have HGN := hide hgN
  have HRN := hide hrN
  clear hgN hrN
  have HCP : Hid ((a = none → cap = 0) ∧ css.length ≤ cap ∧ cap ≤ maxLen) := ⟨han, hcap, hcm⟩
  clear han
  have hV : V ≤ 1048576 := by
    unfold cnfB at hc
    simp only [Bool.and_eq_true, decide_eq_true_eq] at hc
    omega
  have hmay := cnf_may hc
  have e1 : docX V css true c = V := by simp [docX]
  have e2 : docC css true c = remO css c := by simp [docC]
  have e3 : docE css true c = 0 := by simp [docE]
  have HE := hide (And.intro e1 (And.intro e2 e3))
  have HX := hide (bd_of w V (.slice a css.length cap) true (.slice ac c.length cac))
  have hoc : (order c).length ≤ 5000 := by have := order_len c; omega
  obtain ⟨o0, HO0⟩ : ∃ o0, Hid (order c = o0) := ⟨_, hide rfl⟩
  have CO := hide (fun x (hx : Below w.heap.size w x) => order_any ac cac c x (hr.below hx) (by omega) (lits_of hm))
  rw [HO0.out] at CO hoc
  have CD := hide (fun x (hx : Below w.heap.size w x) k (hk : k < css.length) ai ci (hri : Row x ai css[k]) => order_any ai ci css[k] x hri (by have := (cnf_lt hc css[k] (List.getElem_mem hk)).1; omega) (lits_of (hmay _ (List.getElem_mem hk))))
  have HG := hide hg
  unfold maxLen at hcm
  clear e1 e2 e3 hg hr hmay
  go_enter Tryz.func18, Tryz.ntmps18
  go_upto_region 4 with (go_at_call 36; refine (CO.out _ HX.out.bel).mono ?_; rintro e w1 ⟨v0, rfl, ho0, hb1⟩; obtain ⟨a0, cap0, rfl, hr0, hm0, -⟩ := ho0.row; have HL : Hid (Lk w V (.slice a css.length cap) (.slice ac c.length cac) a0 o0 w1) := ⟨HX.out.below hb1, hr0⟩; clear ho0 hb1 hr0 hm0)
  clear HX CO
  obtain ⟨vs, hv, hsrc⟩ := grid_vals HG.out
  have hone := hv.one
  have hvl := hv.len
  have HVN := hide (gridN_vals HGN.out hv hsrc)
  have HV := hide hv
  have HSRC := hide hsrc
  clear hv hsrc
  go_loopw [7] (fun i wr => ∃ k : Nat, k ≤ css.length ∧ i = .int .i64 k ∧ Hid (∀ j (hj : j < css.length), j < k → order css[j] ≠ order c) ∧ Hid (Lk w V (.slice a css.length cap) (.slice ac c.length cac) a0 o0 wr)) (fun i _ => css.length - (intOf i).toNat)
  case atStart => exact ⟨0, Nat.zero_le _, rfl, fun j hj hk => by omega, HL⟩
  case round =>
    obtain ⟨k, hk, rfl, HN, HK⟩ := hrel
    clear HL
    have f0 := HK.out.bd.f0
    have f1 := HK.out.bd.f1
    by_cases hlt : k < css.length
    · obtain ⟨b, off, ai, ci, rfl, hb, hcell, hri, hli⟩ := HG.out k hlt
      have hck := (HK.out.bd.bel.cell (p := ⟨b, off + k, none⟩) hb).trans hcell
      have C1 := hide (CD.out wr HK.out.bd.bel k hlt ai ci (hri.below HK.out.bd.bel))
      have hkl : (order css[k]).length ≤ 5000 := by have := order_len css[k]; have := (cnf_lt hc css[k] (List.getElem_mem hlt)).1; omega
      have hlt' : (k : Int) < css.length := by omega
      obtain ⟨o1, HO1⟩ : ∃ o1, Hid (order css[k] = o1) := ⟨_, hide rfl⟩
      rw [HO1.out] at C1 hkl
      have C2 : Hid (∀ x a1 cap1, Lk w V (.slice (some ⟨b, off, none⟩) css.length cap) (.slice ac c.length cac) a0 o0 x → Row x a1 o1 → Calls Tryz.prog 37 #[.slice a1 o1.length cap1, .slice a0 o0.length cap0] x fun e w' => e = .returned (.bool (intsB o1 o0)) ∧ ∃ n, w' = x.drewN n) := fun x a1 cap1 hx h1 => ints_any a1 a0 cap1 cap0 _ _ x h1 hx.row (by unfold maxLen; omega) (by unfold maxLen; omega)
      by_cases he : order css[k] = order c
      · have hI : intsB o1 o0 = true := by unfold intsB; rw [← HO1.out, ← HO0.out]; simpa using he
        have HM := hide (remO_at hlt he HN.out)
        rw [hI] at C2
        obtain ⟨i0, hi, hz0, hz1, hz2⟩ := info_parts Tryz.info25
        have HVS : Hid (∀ j u, vs[j]? = some u → w.cell? ⟨b, off + j, none⟩ = some u) := by
          rcases HSRC.out with ⟨h1, _⟩ | ⟨h1, _⟩ | ⟨b', off', e', _, h⟩
          · cases h1
          · rw [h1] at hlt; simp at hlt
          · cases e'; exact h
        clear hI he hcell hri hli HN HSRC
        generalize css[k].length = cl at *
        go_upto_region 7 with (first | (go_at_call 36; refine (unhide C1).mono ?_; rintro e w2 ⟨v1, rfl, ho1, hb2⟩; obtain ⟨a1, cap1, rfl, hr1, hm1, -⟩ := ho1.row; have HK2 := hide (HK.out.below hb2); have HR1 := hide hr1; clear ho1 hr1 hm1) | (go_at_call 37; refine (C2.out w2 a1 cap1 HK2.out HR1.out).mono ?_; rintro e w3 ⟨rfl, m3, hw3⟩; subst w3))
        have HK3 := hide (HK2.out.below (below_drewN _ m3))
        generalize w2.drewN m3 = w3 at *
        clear C1 C2 HK HK2 HR1 hck f0 f1 hb2
        have f0 := HK3.out.bd.f0
        have f1 := HK3.out.bd.f1
        have hN2 : w.heap.size + 1 + 1 < w3.heap.size := lt_of_block HK3.out.bd.b2
        have f1' : (w3.alloc (.cells #[] 25)).cell? ⟨w.heap.size, 1, none⟩ = some (.slice (some ⟨b, off, none⟩) css.length cap) := ((below_alloc w3 (.cells #[] 25)).cell (p := ⟨w.heap.size, 1, none⟩) (by show w.heap.size < _; omega)).trans f1
        have HW3 := hide HK3.out.bd.bel
        have hbw : b < w.heap.size := hb
        have HNEW : Hid (∀ x, Below w3.heap.size w3 x → ∀ j u, vs[j]? = some u → x.cell? ⟨b, off + j, none⟩ = some u) := fun x hx j u hj => ((hx.cell (p := ⟨b, off + j, none⟩) (by show b < _; have := HW3.out.size; omega)).trans (HW3.out.cell (p := ⟨b, off + j, none⟩) hb)).trans (HVS.out j u hj)
        have HS1 : Hid (∀ j u, (vs.take k)[j]? = some u → (w3.alloc (.cells #[] 25)).cell? ((⟨b, off, none⟩ : Addr).add j) = some u) := fun j u hj => by
          rw [Addr.add_lit]
          have hjk : j < k := by have := (List.getElem?_eq_some_iff.1 hj).1; simp at this; omega
          rw [List.getElem?_take_of_lt hjk] at hj
          exact HNEW.out _ (below_alloc w3 _) j u hj
        have hkc : (k : Int) ≤ cap := by omega
        have hkc2 : (k : Int) + 1 ≤ css.length := by omega
        go_upto_region 8 with (at_builtin; refine wpList_append_any rfl _ _ 22 rfl w3.heap.size 25 i0 (.slice none 0 0) 1 24 Tryz.underlying22 hi hz0 hz1 hz2 rfl (by decide) (.slice (some ⟨w3.heap.size, 0, none⟩) 0 0) 0 [] rfl (own_lit25 (heap_alloc_new _ _) (Nat.le_refl _)) (by simp) (some ⟨b, off, none⟩) k cap (vs.take k) rfl (Or.inr ⟨_, rfl, by simp [hvl]; omega, HS1.out⟩) (fun u hu => hone u (List.mem_of_mem_take hu)) (by unfold maxLen; omega) (by omega) (by simp) ?_; intro g1 cp1 x1 ho1 hgr1 hat1 hlt1)
        simp only [Nat.zero_add, List.nil_append] at ho1
        have HX1 : Hid (Below w3.heap.size w3 x1) := (below_alloc w3 (.cells #[] 25)).grown hgr1 (by simp) (fun q e => by simp [Value.ownBlock] at e; omega)
        have c0 := (HX1.out.cell (p := ⟨w.heap.size, 0, none⟩) (by show w.heap.size < _; omega)).trans f0
        have c1 := (HX1.out.cell (p := ⟨w.heap.size, 1, none⟩) (by show w.heap.size < _; omega)).trans f1
        have HK1 := hide (HK3.out.bd.below HX1.out)
        have HS2 : Hid (∀ x, Below x1.heap.size x1 x → ∀ j u, (vs.drop (k + 1))[j]? = some u → x.cell? ((⟨b, off + (k + 1), none⟩ : Addr).add j) = some u) := fun x hx j u hj => by
          rw [Addr.add_lit, Nat.add_assoc]
          rw [List.getElem?_drop] at hj
          exact HNEW.out x (HX1.out.trans (hx.mono HX1.out.size)) (k + 1 + j) u hj
        have HSR : Hid (∀ x, Below x1.heap.size x1 x → ((if cap = k + 1 then some (⟨b, off, none⟩ : Addr) else some ⟨b, off + (k + 1), none⟩) = none ∧ css.length - (k + 1) = 0 ∧ cap - (k + 1) = 0 ∧ vs.drop (k + 1) = []) ∨ ∃ ad, (if cap = k + 1 then some (⟨b, off, none⟩ : Addr) else some ⟨b, off + (k + 1), none⟩) = some ad ∧ (vs.drop (k + 1)).length = (css.length - (k + 1)) * 1 ∧ ∀ j u, (vs.drop (k + 1))[j]? = some u → x.cell? (ad.add j) = some u) := fun x hx => by
          right
          by_cases e : cap = k + 1
          · refine ⟨⟨b, off, none⟩, by rw [if_pos e], by simp [hvl], fun j u hj => ?_⟩
            have : vs.drop (k + 1) = [] := by rw [List.drop_eq_nil_iff]; omega
            rw [this] at hj
            simp at hj
          · exact ⟨_, by rw [if_neg e], by simp [hvl], HS2.out x hx⟩
        have HDO : Hid (∀ u ∈ vs.drop (k + 1), u.oneCell' = true) := fun u hu => hone u (List.mem_of_mem_drop hu)
        have hx1 := HX1.out.size
        have g0 := f0
        have g1c := f1
        have HBD : Hid (∀ x, Below w3.heap.size w3 x → Bd w V (.slice (some ⟨b, off, none⟩) css.length cap) true (.slice ac c.length cac) x) := fun x hx => HK3.out.bd.below hx
        clear f0 f1 f1' hgr1 hat1 HS1 HK3
        have hw1 : IntKind.i64.wrap ((k : Int) + 1) = (k : Int) + 1 := by rw [IntKind.wrap_i64]; omega
        have hs1 : ¬ ((k : Int) + 1 < 0) := by omega
        have hs2 : (css.length : Int) ≤ cap := by omega
        have hs3 : ¬ ((css.length : Int) < (k : Int) + 1) := by omega
        have hs4 : ¬ ((cap : Int) < css.length) := by omega
        have hs5 : (0 : Int) ≤ (k : Int) + 1 := by omega
        have hs6 : ((k : Int) + 1).toNat = k + 1 := by omega
        have hs7 : k + 1 ≤ css.length := by omega
        have hs8 : css.length ≤ cap := hcap
        generalize hN : w.heap.size = N at *
        go_region_held3 (fun q => q.cell? ⟨N, 0, none⟩ = some (.int .i64 V) ∧ q.cell? ⟨N, 1, none⟩ = some (.slice (some ⟨b, off, none⟩) css.length cap)) (first | exact ⟨by assumption, by assumption⟩ | exact keep2 r0 r1 (by omega) | go_keep) (first
          | (refine' step_append_any ?_ (.tmp 40) (.tmp 45) 22 ?_ w3.heap.size 25 i0 (.slice none 0 0) 1 24 Tryz.underlying22 hi hz0 hz1 hz2 ?_ ?_ (.slice (some ⟨g1, 0, none⟩) k cp1) k (vs.take k) ?_ ?_ ?_ (if cap = k + 1 then some ⟨b, off, none⟩ else some ⟨b, off + (k + 1), none⟩) (css.length - (k + 1)) (cap - (k + 1)) (vs.drop (k + 1)) ?_ ?_ ?_ ?_ ?_ ?_ ?_; (focus rfl); (focus rfl); (focus rfl); (focus decide); (focus rfl); (focus exact ho1); (focus simp); (focus rfl); (focus (refine HSR.out _ ?_; first | exact Below.refl _ _ | exact belD' _)); (focus exact HDO.out); (focus (unfold maxLen; omega)); (focus omega); (focus (first | exact hx1 | (simp; omega))); intro g2 cp2 x2 ho2 hgr2 hat2 hlt2; clear hat2; have HX2 : Hid (Below w3.heap.size w3 x2) := delBel hgr2 (by first | exact HX1.out | exact belDD HX1.out) ho1; have r0 := (HX2.out.cell (p := ⟨N, 0, none⟩) (by show N < _; omega)).trans g0; have r1 := (HX2.out.cell (p := ⟨N, 1, none⟩) (by show N < _; omega)).trans g1c; have HB3 := hide (HBD.out x2 HX2.out); have y0 := HB3.out.y0; have y1 := HB3.out.y1; have z0 := HB3.out.z0; have z1 := HB3.out.z1; rw [hN] at y0 y1 z0 z1))
        all_goals go_wp2_with fail
        all_goals
          subst hN
          refine bodyPost_ret (v := .tuple #[.agg #[.int .i64 V, .slice (some ⟨g2, 0, none⟩) (k + (css.length - (k + 1))) cp2], .int .i64 0]) (by simp [results, Tryz.results18, go_sem, y0, y1]) rfl ?_
          obtain ⟨q1, q2⟩ := del_finN (u1 := .int .i64 V) (u2 := .slice (some ⟨g2, 0, none⟩) (k + (css.length - (k + 1))) cp2) HVN.out hNN ho2 (HW3.out.trans (HX2.out.mono HW3.out.size)) hN2
          unfold DocQ
          rw [HE.out.1, HE.out.2.1, HE.out.2.2, HM.out]
          have hlen : (css.take k ++ css.drop (k + 1)).length = k + (css.length - (k + 1)) := by simp; omega
          rw [hlen]
          obtain ⟨n1, n2⟩ := own_room ho2
          exact ⟨some ⟨g2, 0, none⟩, cp2, rfl, q1, q2, fun h => (by cases h), n1, n2⟩
      · have hI : intsB o1 o0 = false := by unfold intsB; rw [← HO1.out, ← HO0.out]; simpa using he
        have HN2 : Hid (∀ j (hj : j < css.length), j < k + 1 → order css[j] ≠ order c) := by
          intro j hj hjk
          by_cases e : j = k
          · subst e; exact he
          · exact HN.out j hj (by omega)
        rw [hI] at C2
        clear hI he hcell hri hli HN
        generalize css[k].length = cl at *
        go_wp2_with (first | (go_at_call 36; refine (unhide C1).mono ?_; rintro e w2 ⟨v1, rfl, ho1, hb2⟩; obtain ⟨a1, cap1, rfl, hr1, hm1, -⟩ := ho1.row; have HK2 := hide (HK.out.below hb2); have HR1 := hide hr1; clear ho1 hr1 hm1) | (go_at_call 37; refine (C2.out w2 a1 cap1 HK2.out HR1.out).mono ?_; rintro e w3 ⟨rfl, m3, hw3⟩; subst w3))
        go_roundw
        case rel => exact ⟨k + 1, by omega, by go_num, HN2, HK2.out.below (below_drewN _ m3)⟩
        case measure => simp [intOf]; omega
    · have HM := hide (remO_none (css := css) (c := c) (fun j hj => HN.out j hj (by omega)))
      have y0 := HK.out.bd.y0
      have y1 := HK.out.bd.y1
      have z0 := HK.out.bd.z0
      have z1 := HK.out.bd.z1
      have HB2 : Hid (Below w.heap.size w ((wr.setCell ⟨w.heap.size + 1 + 1, 0, none⟩ (.int .i64 V)).setCell ⟨w.heap.size + 1 + 1, 1, none⟩ (.slice a css.length cap))) :=
        (HK.out.bd.bel.setCell (by simp; omega) _).setCell (by simp; omega) _
      clear CD
      go_wp2_with fail
      refine bodyPost_ret (v := .tuple #[.agg #[.int .i64 V, .slice a css.length cap], .int .i64 0]) (by simp [results, Tryz.results18, go_sem, y0, y1]) rfl ?_
      unfold DocQ
      rw [HE.out.1, HE.out.2.1, HE.out.2.2, HM.out]
      exact ⟨a, cap, rfl, HGN.out.below HB2.out hNN, HB2.out, HCP.out⟩
end Go.Proofs.YtlmbgaconjcaiaaGreat
