/- Joined: The document's step that adds a clause. -/
import Derived.Test.YtlmbgaconjcaiaaGreatWfAll
set_option linter.unusedVariables false
set_option linter.unusedSimpArgs false
namespace Go.Proofs.YtlmbgaconjcaiaaGreat
open Go.RowKit

/-- An append onto an empty list. -/
theorem step_append_zero {P : Program} {w : World} {ops : Array Oper} {o : Oper} {act : Act} {K : Act → World → Prop} {Q : Exit → Act → World → Prop} {E : Prop} (hgd : o.guard = none) (s x : Operand) (t : TypeId)
    (ho : o.op = .call { callee := .builtin .append, args := #[s, x], argTypes := #[t, t] })
    (base : Nat) (e : TypeId) (i : TypeInfo) (z : Value) (size bytes : Nat) (ht : P.underlying t = some (.slice e)) (hi : P.info? e = some i) (hz : i.zero = some z)
    (hsize : i.size = size) (hby : i.bytes = bytes) (hzs : z.cells.size = size) (hsz : 0 < size)
    (v : Value) (hs : act.eval s = v) (hown : w.ownsRow base e size v 0 []) (hv : v ≠ .slice none 0 0)
    (a : Option Addr) (m c : Nat) (news : List Value) (hx : act.eval x = .slice a m c) (hsrc : (a = none ∧ m = 0 ∧ c = 0 ∧ news = []) ∨ ∃ ad, a = some ad ∧ news.length = m * size ∧ ∀ j u, news[j]? = some u → w.cell? (ad.add j) = some u) (h1 : ∀ u ∈ news, u.oneCell' = true)
    (h63 : m ≤ maxLen) (hbytes : m * bytes ≤ 140737488355328) (hbase : base ≤ w.heap.size)
    (h : ∀ g cap w', w'.ownsRow base e size (.slice (some ⟨g, 0, none⟩) m cap) m news → w.grownBy w' v.ownBlock → g < w'.heap.size → K (act.put o.dst (.slice (some ⟨g, 0, none⟩) m cap)) w') :
    if Region.wanted o (yielded ops act.tmps) = true then Oper.wp P o act w K Q else E :=
  step_append_any hgd s x t ho base e i z size bytes ht hi hz hsize hby hzs hsz v 0 [] hs hown hv a m c news hx hsrc h1 (by omega) (by rw [Nat.zero_add]; exact hbytes) hbase fun g cap w' h2 h3 _ h5 => by
    rw [Nat.zero_add] at h2 ⊢
    exact h g cap w' h2 h3 h5

/-- The literal of one clause, and the new formula's box. -/
abbrev oneO (sv : Value) : Obj := .cells #[sv] 25
abbrev boxO : Obj := .cells #[.int .i64 0, .slice none 0 0] 24

theorem belA {N : Nat} {b x : World} {o : Obj} (h : Below N b x) (hN : N ≤ b.heap.size) : Below N b (x.alloc o) := h.alloc (Nat.le_trans hN h.size) o
theorem hd_set {w : World} {B i : Nat} {cs : Array Value} {v : Value} {t : TypeId} (h : w.heap[B]? = some (.cells cs t (0, 0))) : (w.setCell ⟨B, i, none⟩ v).heap[B]? = some (.cells (cs.setIfInBounds i v) t (0, 0)) := by
  have hlt := lt_of_block h
  have h' : w.heap[B] = .cells cs t (0, 0) := by simpa [Array.getElem?_eq_getElem hlt] using h
  show (w.heap.modify B _)[B]? = _
  rw [Array.getElem?_eq_getElem (by simpa using hlt), Array.getElem_modify_self, h']
  rfl
theorem hd_far {w : World} {B B' i : Nat} {v : Value} (h : B' ≠ B) : (w.setCell ⟨B, i, none⟩ v).heap[B']? = w.heap[B']? := Below.heap_setCell _ _ _ _ h
theorem newAt {W : World} {o : Obj} {i : Nat} (h : i = W.heap.size) : (W.alloc o).heap[i]? = some o := by subst h; exact heap_alloc_new _ _
theorem newAt1 {W : World} {o o' : Obj} {i : Nat} (h : i = W.heap.size) : ((W.alloc o).alloc o').heap[i]? = some o := by subst h; rw [heap_alloc_old _ _ (by simp)]; exact heap_alloc_new _ _
theorem newAt2 {W : World} {o o' o'' : Obj} {i : Nat} (h : i = W.heap.size) : (((W.alloc o).alloc o').alloc o'').heap[i]? = some o := by subst h; rw [heap_alloc_old _ _ (by simp; omega), heap_alloc_old _ _ (by simp)]; exact heap_alloc_new _ _
theorem belD {N : Nat} {b x : World} (h : Below N b x) : Below N b x.drew := ⟨h.os, h.tape, h.output, h.size, h.block⟩
theorem grownBel {N : Nat} {b X x : World} {k n c : Nat} (hgr : X.grownBy x (Value.ownBlock (.slice (some ⟨k, 0, none⟩) n c))) (hX : Below N b X) (hN : N ≤ b.heap.size) (hk : N ≤ k) : Below N b x :=
  hX.grown hgr (Nat.le_trans hN hX.size) (fun q e => by simp [Value.ownBlock] at e; omega)
theorem litAt {X x : World} {k1 k : Nat} {sv : Value} (hgr : X.grownBy x (Value.ownBlock (.slice (some ⟨k1, 0, none⟩) 0 0))) (h1 : X.heap[k1]? = some (.cells #[] 25)) (h : X.heap[k]? = some (oneO sv)) : x.heap[k]? = some (oneO sv) := by
  refine (hgr.block k (lt_of_block h) ?_).trans h
  intro e
  simp [Value.ownBlock] at e
  subst e
  rw [h1] at h
  simp at h
theorem boxAt1 {X x : World} {k1 k : Nat} (hgr : X.grownBy x (Value.ownBlock (.slice (some ⟨k1, 0, none⟩) 0 0))) (h1 : X.heap[k1]? = some (.cells #[] 25)) (h : X.heap[k]? = some boxO) : x.heap[k]? = some boxO := by
  refine (hgr.block k (lt_of_block h) ?_).trans h
  intro e
  simp [Value.ownBlock] at e
  subst e
  rw [h1] at h
  simp at h
theorem boxAt2 {X x : World} {g n cap base k : Nat} {vs : List Value} (hgr : X.grownBy x (Value.ownBlock (.slice (some ⟨g, 0, none⟩) n cap))) (ho : X.ownsRow base 25 1 (.slice (some ⟨g, 0, none⟩) n cap) n vs) (h : X.heap[k]? = some boxO) :
    x.heap[k]? = some boxO ∧ x.cell? ⟨k, 0, none⟩ = some (.int .i64 0) ∧ x.cell? ⟨k, 1, none⟩ = some (.slice none 0 0) ∧ x.frozen? ⟨k, 0, none⟩ = false ∧ x.frozen? ⟨k, 1, none⟩ = false := by
  have e : x.heap[k]? = some boxO := by
    refine (hgr.block k (lt_of_block h) ?_).trans h
    intro e
    simp [Value.ownBlock] at e
    subst e
    rcases ho.2 with ⟨e', _⟩ | ⟨g', c', cur, e', _, hg', _⟩
    · cases e'
    · cases e'
      rw [hg'] at h
      simp at h
  exact ⟨e, cell_of_block e rfl, cell_of_block (i := 1) e rfl, by simp [World.frozen?, e], by simp [World.frozen?, e]⟩
theorem srcBlk {x : World} {k : Nat} {sv : Value} (h : x.heap[k]? = some (oneO sv)) : ∀ j u, [sv][j]? = some u → x.cell? ((⟨k, 0, none⟩ : Addr).add j) = some u := by
  intro j u hj
  match j, hj with
  | 0, hj =>
    simp at hj
    subst hj
    exact cell_of_block h rfl

theorem litK {Q : Prop} {X x : World} {k1 k : Nat} {sv : Value} (hgr : X.grownBy x (Value.ownBlock (.slice (some ⟨k1, 0, none⟩) 0 0))) (h1 : X.heap[k1]? = some (.cells #[] 25)) (h : X.heap[k]? = some (oneO sv)) (K : x.heap[k]? = some (oneO sv) → Q) : Q := K (litAt hgr h1 h)
theorem boxK1 {Q : Prop} {X x : World} {k1 k : Nat} (hgr : X.grownBy x (Value.ownBlock (.slice (some ⟨k1, 0, none⟩) 0 0))) (h1 : X.heap[k1]? = some (.cells #[] 25)) (h : X.heap[k]? = some boxO) (K : x.heap[k]? = some boxO → Q) : Q := K (boxAt1 hgr h1 h)
theorem boxK2 {Q : Prop} {X x : World} {g n cap base k : Nat} {vs : List Value} (hgr : X.grownBy x (Value.ownBlock (.slice (some ⟨g, 0, none⟩) n cap))) (ho : X.ownsRow base 25 1 (.slice (some ⟨g, 0, none⟩) n cap) n vs) (h : X.heap[k]? = some boxO)
    (K : x.heap[k]? = some boxO → x.cell? ⟨k, 0, none⟩ = some (.int .i64 0) → x.cell? ⟨k, 1, none⟩ = some (.slice none 0 0) → x.frozen? ⟨k, 0, none⟩ = false → x.frozen? ⟨k, 1, none⟩ = false → Q) : Q := by
  obtain ⟨a, b, c, d, e⟩ := boxAt2 hgr ho h
  exact K a b c d e

/-- Behind the new formula. -/
structure AddM (w1 : World) (vs : List Value) (n : Nat) (V : Int) (v : Value) (x : World) (X g cap : Nat) : Prop where
  val : v = .pointer (some ⟨X, 0, none⟩)
  box : x.heap[X]? = some (.cells #[.int .i64 V, .slice (some ⟨g, 0, none⟩) n cap] 24 (0, 0))
  own : x.ownsRow w1.heap.size 25 1 (.slice (some ⟨g, 0, none⟩) n cap) n vs
  bel : Below w1.heap.size w1 x
  lo : w1.heap.size ≤ X

theorem keep3 {x : World} {k N : Nat} {u1 u2 v0 v1 v2 : Value} (h0 : x.cell? ⟨N, 0, none⟩ = some v0) (h1 : x.cell? ⟨N, 1, none⟩ = some v1) (h2 : x.cell? ⟨N + 1, 1, none⟩ = some v2) (n0 : N ≠ k) (n1 : N + 1 ≠ k) :
    ((x.setCell ⟨k, 0, none⟩ u1).setCell ⟨k, 1, none⟩ u2).cell? ⟨N, 0, none⟩ = some v0 ∧ ((x.setCell ⟨k, 0, none⟩ u1).setCell ⟨k, 1, none⟩ u2).cell? ⟨N, 1, none⟩ = some v1 ∧ ((x.setCell ⟨k, 0, none⟩ u1).setCell ⟨k, 1, none⟩ u2).cell? ⟨N + 1, 1, none⟩ = some v2 := by
  have e : ∀ b j, b ≠ k → ((x.setCell ⟨k, 0, none⟩ u1).setCell ⟨k, 1, none⟩ u2).cell? ⟨b, j, none⟩ = x.cell? ⟨b, j, none⟩ := by
    intro b j hb
    have h1 : ((x.setCell ⟨k, 0, none⟩ u1).setCell ⟨k, 1, none⟩ u2).heap[b]? = x.heap[b]? := (hd_far hb).trans (hd_far hb)
    simp only [World.cell?, h1]
  exact ⟨(e _ _ n0).trans h0, (e _ _ n0).trans h1, (e _ _ n1).trans h2⟩
theorem keepB {wc x : World} {N : Nat} {v0 v1 v2 : Value} (hb : Below wc.heap.size wc x) (h0 : wc.cell? ⟨N, 0, none⟩ = some v0) (h1 : wc.cell? ⟨N, 1, none⟩ = some v1) (h2 : wc.cell? ⟨N + 1, 1, none⟩ = some v2) (hNa : N < wc.heap.size) (hNb : N + 1 < wc.heap.size) :
    x.cell? ⟨N, 0, none⟩ = some v0 ∧ x.cell? ⟨N, 1, none⟩ = some v1 ∧ x.cell? ⟨N + 1, 1, none⟩ = some v2 :=
  ⟨(hb.cell (p := ⟨N, 0, none⟩) hNa).trans h0, (hb.cell (p := ⟨N, 1, none⟩) hNa).trans h1, (hb.cell (p := ⟨N + 1, 1, none⟩) hNb).trans h2⟩
theorem add_fin1 {w1 x : World} {vs : List Value} {n g cap : Nat} {V : Int} (ho : x.ownsRow w1.heap.size 25 1 (.slice (some ⟨g, 0, none⟩) n cap) n vs) (hb : Below w1.heap.size w1 x) :
    AddM w1 vs n V (.pointer (some ⟨x.heap.size, 0, none⟩)) (x.alloc (.cells #[.int .i64 V, .slice (some ⟨g, 0, none⟩) n cap] 24)) x.heap.size g cap :=
  ⟨rfl, heap_alloc_new _ _, World.ownsRow.alloc ho _, belA hb (Nat.le_refl _), hb.size⟩
theorem add_fin2 {w1 x : World} {vs : List Value} {n g cap k : Nat} {V : Int} (ho : x.ownsRow w1.heap.size 25 1 (.slice (some ⟨g, 0, none⟩) n cap) n vs) (hb : Below w1.heap.size w1 x) (hk : w1.heap.size ≤ k) (hx : x.heap[k]? = some boxO) :
    AddM w1 vs n V (.pointer (some ⟨k, 0, none⟩)) ((x.setCell ⟨k, 0, none⟩ (.int .i64 V)).setCell ⟨k, 1, none⟩ (.slice (some ⟨g, 0, none⟩) n cap)) k g cap := by
  have hne : g ≠ k := by
    rintro rfl
    rcases ho.2 with ⟨e', _⟩ | ⟨g', c', cur, e', _, hg', _⟩
    · cases e'
    · cases e'
      rw [hg'] at hx
      simp at hx
  have h1 := hd_set (i := 0) (v := .int .i64 V) hx
  have h2 := hd_set (i := 1) (v := .slice (some ⟨g, 0, none⟩) n cap) h1
  refine ⟨rfl, h2, ?_, (hb.setCell hk _).setCell hk _, hk⟩
  rcases ho.2 with ⟨e', _⟩ | ⟨g', c', cur, e', hb', hg', r⟩
  · cases e'
  · cases e'
    exact ⟨ho.1, .inr ⟨g, cap, cur, rfl, hb', ((hd_far hne).trans (hd_far hne)).trans hg', r⟩⟩

/-- In the midst of finding the greatest variable. -/
structure GrM (w wc : World) (vs : List Value) (n V : Nat) (f u : Value) (X g cp m : Nat) (x : World) : Prop where
  bd : Bd w V f false u x
  box : x.heap[X]? = some (.cells #[.int .i64 (m : Int), .slice (some ⟨g, 0, none⟩) n cp] 24 (0, 0))
  own : x.ownsRow wc.heap.size 25 1 (.slice (some ⟨g, 0, none⟩) n cp) n vs
  lo : wc.heap.size ≤ X
  n2 : w.heap.size + 1 + 1 < wc.heap.size
section
variable {w wc x : World} {vs : List Value} {n V : Nat} {f u : Value} {X g cp m : Nat}
theorem GrM.ne (h : GrM w wc vs n V f u X g cp m x) : g ≠ X := by
  rintro rfl
  have hx := h.box
  rcases h.own.2 with ⟨e', _⟩ | ⟨g', c', cur, e', _, hg', _⟩
  · cases e'
  · cases e'
    rw [hg'] at hx
    simp at hx
theorem GrM.ge (h : GrM w wc vs n V f u X g cp m x) : wc.heap.size ≤ g := (World.ownsRow.lt h.own g rfl).1
theorem GrM.set (h : GrM w wc vs n V f u X g cp m x) (m' : Nat) : GrM w wc vs n V f u X g cp m' (x.setCell ⟨X, 0, none⟩ (.int .i64 (m' : Int))) := by
  have a := h.lo
  have b := h.n2
  have hne := h.ne
  refine ⟨⟨h.bd.bel.setCell (by show w.heap.size ≤ X; omega) _, (hd_far (by omega)).trans h.bd.b0, (hd_far (by omega)).trans h.bd.b1, (hd_far (by omega)).trans h.bd.b2⟩, (hd_set h.box).trans (by simp), ?_, a, b⟩
  rcases h.own.2 with ⟨e', _⟩ | ⟨g', c', cur, e', hb', hg', r⟩
  · cases e'
  · cases e'
    exact ⟨h.own.1, .inr ⟨g, cp, cur, rfl, hb', (hd_far hne).trans hg', r⟩⟩
theorem GrM.c0 (h : GrM w wc vs n V f u X g cp m x) : x.cell? ⟨X, 0, none⟩ = some (.int .i64 (m : Int)) := cell_of_block h.box rfl
theorem GrM.c1 (h : GrM w wc vs n V f u X g cp m x) : x.cell? ⟨X, 1, none⟩ = some (.slice (some ⟨g, 0, none⟩) n cp) := cell_of_block (i := 1) h.box rfl
theorem GrM.fz (h : GrM w wc vs n V f u X g cp m x) : x.frozen? ⟨X, 0, none⟩ = false := by simp [World.frozen?, h.box]
theorem GrM.fin {css : List (List Int)} (h : GrM w wc vs n V f u X g cp m x) (hv : Vals w vs css) (u1 u2 : Value) :
    Grid ((x.setCell ⟨w.heap.size + 1 + 1, 0, none⟩ u1).setCell ⟨w.heap.size + 1 + 1, 1, none⟩ u2) (some ⟨g, 0, none⟩) css ∧ Below w.heap.size w ((x.setCell ⟨w.heap.size + 1 + 1, 0, none⟩ u1).setCell ⟨w.heap.size + 1 + 1, 1, none⟩ u2) := by
  have hb2 : Below w.heap.size w ((x.setCell ⟨w.heap.size + 1 + 1, 0, none⟩ u1).setCell ⟨w.heap.size + 1 + 1, 1, none⟩ u2) := (h.bd.bel.setCell (by simp; omega) _).setCell (by simp; omega) _
  refine ⟨(hv.below hb2).grid (w := w) (base := wc.heap.size) (n := n) (cap := cp) ?_, hb2⟩
  have a := h.ge
  have b := h.n2
  rcases h.own.2 with ⟨e', _⟩ | ⟨g', c', cur, e', hb', hg', r⟩
  · cases e'
  · cases e'
    have hne : g ≠ w.heap.size + 1 + 1 := by omega
    exact ⟨h.own.1, .inr ⟨g, cp, cur, rfl, hb', ((hd_far hne).trans (hd_far hne)).trans hg', r⟩⟩
end
theorem am_of {w wc x : World} {vs : List Value} {n V : Nat} {f u v : Value} {X g cp : Nat} (h : AddM wc vs n V v x X g cp) (hb : Bd w V f false u wc) : GrM w wc vs n V f u X g cp V x :=
  ⟨hb.below h.bel, h.box, h.own, h.lo, lt_of_block hb.b2⟩
theorem varI_abs (l : Int) : varI l = (l.natAbs : Int) := by unfold varI; split <;> omega

set_option maxHeartbeats 4000000 in
set_option maxRecDepth 100000 in
theorem refDo_add (a ac : Option Addr) (cap cac : Nat) (V : Nat) (css : List (List Int)) (c : List Int) (w : World) (hg : Grid w a css) (han : a = none → cap = 0) (hl : css.length ≤ 900) (hr : Row w ac c) (hlc : c.length ≤ 4096) (hc : cnfB V css = true) (hm : mayB c 1048576 = true) (hno : (refU css c || refF css c) = true) :
    Calls Tryz.prog 18 #[.agg #[.int .i64 V, .slice a css.length cap], .agg #[.bool false, .slice ac c.length cac]] w (DocP w V css false c) := by
  have hV : V ≤ 1048576 := by
    unfold cnfB at hc
    simp only [Bool.and_eq_true, decide_eq_true_eq] at hc
    omega
  have hlt := cnf_lt hc
  have hls : ∀ x ∈ c, -1048576 ≤ x ∧ x ≤ 1048576 := fun x hx => (may_lits hm x hx).2
  have GU : Hid (∀ x, Bd w V (.slice a css.length cap) false (.slice ac c.length cac) x → Calls Tryz.prog 13 #[.slice a css.length cap, .slice ac c.length cac] x fun e w' => e = .returned (.bool (refU css c)) ∧ Hid (Bd w V (.slice a css.length cap) false (.slice ac c.length cac) w')) := by
    intro x hx
    refine (refUnit7_any a ac cap cac css c V x (hg.below hx.bel) (hr.below hx.bel) (by omega) hV (fun d hd => ⟨by have := (hlt d hd).1; omega, (hlt d hd).2⟩) (by omega) hls).mono ?_
    rintro e w' ⟨rfl, hb⟩
    exact ⟨rfl, hx.below hb⟩
  have GF : Hid (∀ x, Bd w V (.slice a css.length cap) false (.slice ac c.length cac) x → Calls Tryz.prog 14 #[.slice a css.length cap, .slice ac c.length cac] x fun e w' => e = .returned (.bool (refF css c)) ∧ Hid (Bd w V (.slice a css.length cap) false (.slice ac c.length cac) w')) := by
    intro x hx
    refine (refFirst7_any a ac cap cac css c V x (hg.below hx.bel) (hr.below hx.bel) (by omega) hV hlt (by omega) hls).mono ?_
    rintro e w' ⟨rfl, hb⟩
    exact ⟨rfl, hx.below hb⟩
  have HX := hide (bd_of w V (.slice a css.length cap) false (.slice ac c.length cac))
  have hne : ((css.length : Int) == 262144) = false := by simp; omega
  have e1 : docX V css false c = max V (gtN c) := by simp [docX, hno]
  have e2 : docC css false c = css ++ [c] := by simp [docC, hno]
  have e3 : docE css false c = 0 := by simp [docE, hno]
  have HE := hide (And.intro e1 (And.intro e2 e3))
  have HG := hide hg
  have HR := hide hr
  have HLS := hide hls
  have HNO := hide hno
  clear e1 e2 e3 hg hr hc hm hno hlt hls
  generalize hu : refU css c = u at *
  generalize hf : refF css c = f at *
  clear hu hf
  go_enter Tryz.func18, Tryz.ntmps18
  go_upto_region 12 with fail
  go_cut [67] from 54 to 67 (fun v wx => v = .bool false ∧ Hid (Bd w V (.slice a css.length cap) false (.slice ac c.length cac) wx))
  case first =>
    cases u with
    | true =>
      go_wp2_with (first | (go_at_call 13; refine (GU.out _ HX.out).mono ?_; rintro e w1 ⟨rfl, H1⟩))
      go_meet
      case rel => exact ⟨rfl, H1⟩
    | false =>
      have hf : f = true := by simpa using HNO.out
      subst hf
      go_wp2_with (first | (go_at_call 13; refine (GU.out _ HX.out).mono ?_; rintro e w1 ⟨rfl, H1⟩; have q0 := H1.out.f1; have q1 := H1.out.s1) | (go_at_call 14; refine (GF.out _ H1.out).mono ?_; rintro e w2 ⟨rfl, H2⟩))
      go_meet
      case rel => exact ⟨rfl, H2⟩
  case rest =>
    obtain ⟨rfl, HB⟩ := hcut
    obtain ⟨wd, hwd⟩ : ∃ wd, wd = wc := ⟨wc, rfl⟩
    subst hwd
    clear GU GF HX HNO
    have f0 := HB.out.f0
    have f1 := HB.out.f1
    have s1 := HB.out.s1
    go_upto_region 14 with fail
    obtain ⟨i0, hi, hz0, hz1, hz2⟩ := info_parts Tryz.info25
    obtain ⟨vs, hv, hsrc⟩ := grid_vals HG.out
    have hone := hv.one
    have hvl := hv.len
    have HBW := hide HB.out.bel
    have hMl := HB.out.bel.size
    have HREF : Hid (Below wd.heap.size wd wd) := Below.refl _ _
    have HSRC : Hid (∀ x, Below wd.heap.size wd x → (a = none ∧ css.length = 0 ∧ cap = 0 ∧ vs = []) ∨ ∃ ad, a = some ad ∧ vs.length = css.length * 1 ∧ ∀ j u, vs[j]? = some u → x.cell? (ad.add j) = some u) := fun x hx => src_of han hv hsrc x (HBW.out.trans (hx.mono hMl))
    have hN2 : w.heap.size + 1 + 1 < wd.heap.size := lt_of_block HB.out.b2
    have HV := hide hv
    clear hsrc hv
    go_cut [9] from 69 to 79 (fun v wx => ∃ X g cp, Hid (AddM wd (vs ++ [.slice ac c.length cac]) (css.length + 1) V v wx X g cp))
    case first =>
      clear HG HR HLS HE HV
      generalize hN : w.heap.size = N at *
      have hNa : N < wd.heap.size := by omega
      have hNb : N + 1 < wd.heap.size := by omega
      go_region_held3 (fun q => q.cell? ⟨N, 0, none⟩ = some (.int .i64 V) ∧ q.cell? ⟨N, 1, none⟩ = some (.slice a css.length cap) ∧ q.cell? ⟨N + 1, 1, none⟩ = some (.slice ac c.length cac)) (first | exact ⟨by assumption, by assumption, by assumption⟩ | exact keep3 r0 r1 r2 (by omega) (by omega) | (refine keepB ?_ f0 f1 s1 hNa hNb; (repeat (first | exact HREF.out | exact HB2.out | exact HB1.out | (refine belD ?_) | (refine belA ?_ (Nat.le_refl _)))); done) | go_keep) (first
        | (refine' step_append_zero ?_ (.tmp 71) (.tmp 73) 22 ?_ wd.heap.size 25 i0 (.slice none 0 0) 1 24 Tryz.underlying22 hi hz0 hz1 hz2 ?_ ?_ _ ?_ (own_lit25 ?_ ?_) ?_ a css.length cap vs ?_ (HSRC.out _ ?_) hone ?_ ?_ ?_ ?_; (focus rfl); (focus rfl); (focus rfl); (focus decide); (focus rfl); (focus (first | exact newAt (by first | rfl | (simp; done)) | exact newAt1 (by first | rfl | (simp; done)) | exact newAt2 (by first | rfl | (simp; done)))); (focus (first | exact Nat.le_refl _ | omega | (simp; done) | (simp; omega))); (focus simp); (focus rfl); (focus (repeat (first | exact HREF.out | (refine belD ?_) | (refine belA ?_ (Nat.le_refl _))))); (focus (unfold maxLen; omega)); (focus omega); (focus (first | exact Nat.le_refl _ | omega | (simp; done) | (simp; omega))); intro g1 cp1 x1 ho1 hgr1 hlt1; have HB1 := hide (grownBel (N := wd.heap.size) (b := wd) hgr1 (by (repeat (first | exact HREF.out | (refine belD ?_) | (refine belA ?_ (Nat.le_refl _))))) (Nat.le_refl _) (by (first | exact Nat.le_refl _ | omega | (simp; done) | (simp; omega)))); (try (refine' litK (sv := .slice ac c.length cac) hgr1 ?_ ?_ ?_; (any_goals (focus (first | exact newAt (by first | rfl | (simp; done)) | exact newAt1 (by first | rfl | (simp; done)) | exact newAt2 (by first | rfl | (simp; done))))); intro HL2; (try simp only [size_alloc] at HL2); replace HL2 := hide HL2)); (try (refine' boxK1 hgr1 ?_ ?_ ?_; (any_goals (focus (first | exact newAt (by first | rfl | (simp; done)) | exact newAt1 (by first | rfl | (simp; done)) | exact newAt2 (by first | rfl | (simp; done))))); intro HBX; (try simp only [size_alloc] at HBX); replace HBX := hide HBX)); have l1 := HB1.out.size; have t0 := (HB1.out.cell (p := ⟨N, 0, none⟩) hNa).trans f0; have t1 := (HB1.out.cell (p := ⟨N, 1, none⟩) hNa).trans f1; have t2 := (HB1.out.cell (p := ⟨N + 1, 1, none⟩) hNb).trans s1)
        | (refine' step_append_any ?_ (.tmp 74) (.tmp 77) 22 ?_ wd.heap.size 25 i0 (.slice none 0 0) 1 24 Tryz.underlying22 hi hz0 hz1 hz2 ?_ ?_ (.slice (some ⟨g1, 0, none⟩) css.length cp1) css.length vs ?_ ?_ ?_ (some ⟨_, 0, none⟩) 1 1 [.slice ac c.length cac] ?_ (Or.inr ⟨_, rfl, rfl, srcBlk ?_⟩) ?_ ?_ ?_ ?_ ?_; (focus rfl); (focus rfl); (focus rfl); (focus decide); (focus rfl); (focus (first | exact ho1 | exact World.ownsRow.alloc ho1 _ | exact World.ownsRow.alloc (World.ownsRow.alloc ho1 _) _)); (focus simp); (focus rfl); (focus (first | exact newAt (by first | rfl | (simp; done)) | exact newAt1 (by first | rfl | (simp; done)) | exact HL2.out | exact (heap_alloc_old _ _ (lt_of_block HL2.out)).trans HL2.out)); (focus (intro u hu; simp at hu; subst hu; rfl)); (focus (unfold maxLen; omega)); (focus omega); (focus (have := HB1.out.size; first | exact this | (simp; done) | (simp; omega) | omega)); intro g2 cp2 x2 ho2 hgr2 hat2 hlt2; have HB2 := hide (grownBel (N := wd.heap.size) (b := wd) hgr2 (by (repeat (first | exact HB1.out | (refine belA ?_ (Nat.le_refl _))))) (Nat.le_refl _) ((World.ownsRow.lt ho1 g1 rfl).1)); (try (refine' boxK2 hgr2 ?_ ?_ ?_; (any_goals (focus (first | exact ho1 | exact World.ownsRow.alloc ho1 _ | exact World.ownsRow.alloc (World.ownsRow.alloc ho1 _) _))); (any_goals (focus (first | exact newAt (by first | rfl | (simp; done)) | exact newAt1 (by first | rfl | (simp; done)) | exact HBX.out | exact (heap_alloc_old _ _ (lt_of_block HBX.out)).trans HBX.out))); intro q0 q1 q2 q3 q4; (try simp only [size_alloc] at q0 q1 q2 q3 q4))); have l2 := HB2.out.size; have r0 := (HB2.out.cell (p := ⟨N, 0, none⟩) hNa).trans f0; have r1 := (HB2.out.cell (p := ⟨N, 1, none⟩) hNa).trans f1; have r2 := (HB2.out.cell (p := ⟨N + 1, 1, none⟩) hNb).trans s1))
      all_goals
        go_wp2_with fail
        go_meet
        case rel =>
          first
            | exact ⟨_, _, _, add_fin1 ho2 HB2.out⟩
            | exact ⟨_, _, _, add_fin2 ho2 HB2.out (by omega) q0⟩
    case rest =>
      obtain ⟨X, g, cp, HA⟩ := hcut
      have hval := HA.out.val
      subst hval
      have HM := hide (am_of HA.out HB.out)
      clear HA HB HREF HSRC HBW f0 f1 s1
      go_upto_region 16 with fail
      go_loopw [10, 11] (fun i _ wr => ∃ k : Nat, k ≤ c.length ∧ i = .int .i64 k ∧ Hid (GrM w wd (vs ++ [.slice ac c.length cac]) (css.length + 1) V (.slice a css.length cap) (.slice ac c.length cac) X g cp (max V (gtN (c.take k))) wr)) (fun i _ _ => c.length - (intOf i).toNat)
      case atStart => exact ⟨0, Nat.zero_le _, rfl, by simpa [gtN] using HM⟩
      case round =>
        obtain ⟨k, hk, rfl, HK⟩ := hrel
        clear HM
        have s1 := HK.out.bd.s1
        by_cases hlt : k < c.length
        · obtain ⟨b, off, rfl, hb, hcell⟩ := HR.out k hlt
          have hck := (HK.out.bd.bel.cell (p := ⟨b, off + k, none⟩) hb).trans hcell
          have hcl := HLS.out c[k] (List.getElem_mem hlt)
          have CV := fun W => var_any c[k] W hcl.1 hcl.2
          rw [varI_abs] at CV
          replace CV := hide CV
          have hlt' : (k : Int) < c.length := by omega
          have x0 := HK.out.c0
          have z0 := HK.out.fz
          have HT : Hid (gtN (c.take (k + 1)) = max (gtN (c.take k)) c[k].natAbs) := by show _ = _; rw [List.take_succ_eq_append_getElem hlt, gtN_snoc]
          by_cases hgt : max V (gtN (c.take k)) < c[k].natAbs
          · have hgi : ((max V (gtN (c.take k)) : Nat) : Int) < (c[k].natAbs : Int) := by omega
            have HN : Hid (GrM w wd (vs ++ [.slice (some ⟨b, off, none⟩) c.length cac]) (css.length + 1) V (.slice a css.length cap) (.slice (some ⟨b, off, none⟩) c.length cac) X g cp (max V (gtN (c.take (k + 1)))) (wr.setCell ⟨X, 0, none⟩ (.int .i64 (c[k].natAbs : Int)))) := by
              have e : max V (gtN (c.take (k + 1))) = c[k].natAbs := by rw [HT.out]; omega
              rw [e]
              exact HK.out.set _
            clear HK hcell hcl hgt HT
            generalize ((max V (gtN (c.take k)) : Nat) : Int) = mm at *
            generalize (c[k].natAbs : Int) = vv at *
            generalize c[k] = ck at *
            go_wp2_with (go_at_call 24; refine (unhide CV _).mono ?_; rintro e w0 ⟨rfl, hw0⟩; subst w0)
            go_roundw
            case rel => exact ⟨k + 1, by omega, by go_num, HN⟩
            case measure => simp [intOf]; omega
          · have hgi : ¬ ((max V (gtN (c.take k)) : Nat) : Int) < (c[k].natAbs : Int) := by omega
            have HN : Hid (GrM w wd (vs ++ [.slice (some ⟨b, off, none⟩) c.length cac]) (css.length + 1) V (.slice a css.length cap) (.slice (some ⟨b, off, none⟩) c.length cac) X g cp (max V (gtN (c.take (k + 1)))) wr) := by
              have e : max V (gtN (c.take (k + 1))) = max V (gtN (c.take k)) := by rw [HT.out]; omega
              rw [e]
              exact HK.out
            clear HK hcell hcl hgt HT
            generalize ((max V (gtN (c.take k)) : Nat) : Int) = mm at *
            generalize (c[k].natAbs : Int) = vv at *
            generalize c[k] = ck at *
            go_wp2_with (go_at_call 24; refine (unhide CV _).mono ?_; rintro e w0 ⟨rfl, hw0⟩; subst w0)
            go_roundw
            case rel => exact ⟨k + 1, by omega, by go_num, HN⟩
            case measure => simp [intOf]; omega
        · have hz : c.take k = c := List.take_of_length_le (by omega)
          rw [hz] at HK
          have x0 := HK.out.c0
          have x1 := HK.out.c1
          have y0 := HK.out.bd.y0
          have y1 := HK.out.bd.y1
          have z0 := HK.out.bd.z0
          have z1 := HK.out.bd.z1
          obtain ⟨q1, q2⟩ := HK.out.fin (HV.out.snoc (cac := cac) HR.out (by unfold maxLen; omega)) (.int .i64 ((max V (gtN c) : Nat) : Int)) (.slice (some ⟨g, 0, none⟩) (css.length + 1) cp)
          have Q1 := hide q1
          have Q2 := hide q2
          clear q1 q2 HK hz
          generalize hmm : ((max V (gtN c) : Nat) : Int) = mm at *
          have HMM := hide hmm
          clear hmm
          go_wp2_with fail
          refine bodyPost_ret (v := .tuple #[.agg #[.int .i64 mm, .slice (some ⟨g, 0, none⟩) (css.length + 1) cp], .int .i64 0]) (by simp [results, Tryz.results18, go_sem, y0, y1]) rfl ?_
          unfold DocP
          rw [HE.out.1, HE.out.2.1, HE.out.2.2, HMM.out]
          have hlen : (css ++ [c]).length = css.length + 1 := by simp
          rw [hlen]
          exact ⟨some ⟨g, 0, none⟩, cp, rfl, Q1.out, Q2.out⟩
end Go.Proofs.YtlmbgaconjcaiaaGreat
