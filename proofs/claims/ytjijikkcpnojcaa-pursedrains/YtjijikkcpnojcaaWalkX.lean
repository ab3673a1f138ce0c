/- The program's purse and the document's side by side; acts. -/
import Derived.Test.YtjijikkcpnojcaaWalkW
set_option linter.unusedVariables false
set_option linter.unusedSimpArgs false
namespace Go.Proofs.Ytjijikkcpnojcaa
open Go.RowKit Go.Conc

/-- What is told where tokens are taken, or given: a number, and how many there are then. -/
def codeF (N : Nat) (room left : Nat → Nat) (give : Bool) (k n : Int) : Int :=
  if kinB N k && cntB n then
    if give then (if left k.toNat + n.toNat ≤ room k.toNat then 0 else 5) else (if n.toNat ≤ left k.toNat then 0 else 6)
  else 1
def leftF (N : Nat) (room left : Nat → Nat) (give : Bool) (k n : Int) : Nat → Nat :=
  if kinB N k && cntB n then
    if give then (if left k.toNat + n.toNat ≤ room k.toNat then upd left k.toNat (left k.toNat + n.toNat) else left) else (if n.toNat ≤ left k.toNat then upd left k.toNat (left k.toNat - n.toNat) else left)
  else left
theorem codeF_no {N : Nat} {room left : Nat → Nat} {g : Bool} {k n : Int} (h : kinB N k = false ∨ cntB n = false) : codeF N room left g k n = 1 ∧ leftF N room left g k n = left := by
  have : (kinB N k && cntB n) = false := by rcases h with h | h <;> simp [h]
  unfold codeF leftF
  rw [this]
  exact ⟨rfl, rfl⟩
theorem codeF_nat {N : Nat} {room left : Nat → Nat} {g : Bool} {k m : Nat} (hk : k < N) (hm : m ≤ 4096) : codeF N room left g (k : Int) (m : Int) = (if g then (if left k + m ≤ room k then 0 else 5) else (if m ≤ left k then 0 else 6)) ∧
    leftF N room left g (k : Int) (m : Int) = (if g then (if left k + m ≤ room k then upd left k (left k + m) else left) else (if m ≤ left k then upd left k (left k - m) else left)) := by
  unfold codeF leftF
  rw [kinB_of hk, cntB_of hm]
  exact ⟨rfl, rfl⟩

theorem PuTo.refl {w : World} {p K kc N : Nat} {ch room left : Nat → Nat} {nx : Nat} (h : Pu w p K kc N ch room left nx) : PuTo w w p K kc N ch room left nx := ⟨h, Kp.refl _ _⟩

theorem take_all (w : World) (p K kc N : Nat) (ch room left : Nat → Nat) (nx : Nat) (k n : Int) (hA : Pu w p K kc N ch room left nx) :
    Calls Try.prog 13 #[.pointer (some ⟨p, 0, none⟩), .int .i64 k, .int .i64 n] w fun e w' => e = .returned (.int .i64 (codeF N room left false k n)) ∧ PuTo w w' p K kc N ch room (leftF N room left false k n) nx := by
  by_cases h : kinB N k = true ∧ cntB n = true
  · obtain ⟨kk, rfl, hk⟩ := kinB_yes h.1
    obtain ⟨m, rfl, hm⟩ := cntB_yes h.2
    obtain ⟨e1, e2⟩ := codeF_nat (room := room) (left := left) (g := false) hk hm
    rw [e1, e2]
    by_cases hl : m ≤ left kk
    · simp only [hl, if_true, Bool.false_eq_true, if_false]
      exact take_ok w p K kc N ch room left nx kk m hA hk hm hl
    · simp only [hl, if_false, Bool.false_eq_true]
      exact take_out w p K kc N ch room left nx kk m hA hk hm (by omega)
  · have h' : kinB N k = false ∨ cntB n = false := by
      cases h1 : kinB N k <;> cases h2 : cntB n <;> simp_all
    obtain ⟨e1, e2⟩ := codeF_no (room := room) (left := left) (g := false) h'
    rw [e1, e2]
    refine (take_no w p K kc N ch room left nx k n hA h').mono ?_
    rintro e w' ⟨rfl, rfl⟩
    exact ⟨rfl, PuTo.refl hA⟩
theorem give_all (w : World) (p K kc N : Nat) (ch room left : Nat → Nat) (nx : Nat) (k n : Int) (hA : Pu w p K kc N ch room left nx) :
    Calls Try.prog 14 #[.pointer (some ⟨p, 0, none⟩), .int .i64 k, .int .i64 n] w fun e w' => e = .returned (.int .i64 (codeF N room left true k n)) ∧ PuTo w w' p K kc N ch room (leftF N room left true k n) nx := by
  by_cases h : kinB N k = true ∧ cntB n = true
  · obtain ⟨kk, rfl, hk⟩ := kinB_yes h.1
    obtain ⟨m, rfl, hm⟩ := cntB_yes h.2
    obtain ⟨e1, e2⟩ := codeF_nat (room := room) (left := left) (g := true) hk hm
    rw [e1, e2]
    by_cases hl : left kk + m ≤ room kk
    · simp only [hl, if_true]
      exact give_ok w p K kc N ch room left nx kk m hA hk hm hl
    · simp only [hl, if_false, if_true]
      exact give_full w p K kc N ch room left nx kk m hA hk hm (by omega)
  · have h' : kinB N k = false ∨ cntB n = false := by
      cases h1 : kinB N k <;> cases h2 : cntB n <;> simp_all
    obtain ⟨e1, e2⟩ := codeF_no (room := room) (left := left) (g := true) h'
    rw [e1, e2]
    refine (give_no w p K kc N ch room left nx k n hA h').mono ?_
    rintro e w' ⟨rfl, rfl⟩
    exact ⟨rfl, PuTo.refl hA⟩

/-- How many are asked of the document: below 0 where they are taken. -/
def sgn (give : Bool) (n : Int) : Int := if give then n else -n
theorem turn_all (w : World) (q off ca b cb N d : Nat) (room left : Nat → Nat) (g : Bool) (k n : Int) (hR : Rf w q off b cb N room left) (hN : N ≤ 8) (hle : ∀ i, i < N → left i ≤ room i) (hrm : ∀ i, i < N → room i ≤ 4096) (hn : cntB n = true) :
    Calls Try.prog 18 #[.agg (rv q off ca b cb N d), .int .i64 k, .int .i64 (sgn g n)] w (RTo w q off ca N d room (leftF N room left g k n) (codeF N room left g k n)) := by
  obtain ⟨m, rfl, hm⟩ := cntB_yes hn
  cases hk : kinB N k with
  | false =>
    obtain ⟨e1, e2⟩ := codeF_no (room := room) (left := left) (g := g) (n := (m : Int)) (.inl hk)
    rw [e1, e2]
    exact turn_no w q off ca b cb N d room left k _ hR hN hk
  | true =>
    obtain ⟨kk, rfl, hk'⟩ := kinB_yes hk
    clear hk
    have hk := hk'
    have h1 := hle kk hk
    have h2 := hrm kk hk
    obtain ⟨e1, e2⟩ := codeF_nat (room := room) (left := left) (g := g) hk hm
    rw [e1, e2]
    cases g with
    | true =>
      by_cases hl : left kk + m ≤ room kk
      · simp only [hl, if_true, sgn]
        exact turn_ok w q off ca b cb N d room left kk (m : Int) (left kk + m) hR hN hk (by omega) h2 (by omega) (by omega) (by omega) hl
      · simp only [hl, if_false, if_true, sgn]
        exact turn_full w q off ca b cb N d room left kk (m : Int) hR hN hk (by omega) h2 (by omega) (by omega) (by omega)
    | false =>
      by_cases hl : m ≤ left kk
      · simp only [hl, if_true, Bool.false_eq_true, if_false, sgn]
        exact turn_ok w q off ca b cb N d room left kk (-(m : Int)) (left kk - m) hR hN hk (by omega) h2 (by omega) (by omega) (by omega) (by omega)
      · simp only [hl, if_false, Bool.false_eq_true, sgn]
        exact turn_out w q off ca b cb N d room left kk (-(m : Int)) hR hN hk (by omega) (by omega) (by omega) (by omega)

theorem scan_mod (left : Nat → Nat) (N nx : Nat) : ∀ f i, scan left N (nx % N) i f = scan left N nx i f
  | 0, _ => rfl
  | f + 1, i => by
    simp only [scan]
    rw [Nat.mod_add_mod, scan_mod left N nx f (i + 1)]
theorem any_mod (left : Nat → Nat) (N nx : Nat) : anyK left N (nx % N) = anyK left N nx := scan_mod left N nx N 0

/-- Both purses, the document's in a box, and a box for what is told. -/
structure Pl (w W : World) (X Y p K kc N : Nat) (ch room left : Nat → Nat) (nx q off ca b cb d : Nat) : Prop where
  pu : Pu W p K kc N ch room left nx
  rf : Rf W q off b cb N room left
  hd : W.heap[X]? = some (.cells (rv q off ca b cb N d) 31 (0, 0))
  yd : W.heap[Y]? = some (.cells #[.slice none 0 0, .slice none 0 0, .int .i64 0] 31 (0, 0))
  ne : X ≠ Y
  lX : w.heap.size ≤ X
  lY : w.heap.size ≤ Y
  lp : w.heap.size ≤ p
  lc : ∀ i, i < N → w.heap.size ≤ ch i
  rm : Rms w q off N room
  dn : d = nx % N
  bel : Below w.heap.size w W
section
variable {w W W' : World} {X Y p K kc N : Nat} {ch room left left' : Nat → Nat} {nx nx' q off ca b cb b' cb' d : Nat}
theorem Pu.away (h : Pu W p K kc N ch room left nx) {z : Nat} {y : Array Value} {u : TypeId} (hq : W.heap[z]? = some (.cells y u (0, 0))) (h43 : u ≠ 43) : ¬ Of p N ch z := by
  rintro (e | ⟨i, hi, e⟩)
  · exact ne_type hq h.head h43 e
  · exact ne_chan hq (h.chs i hi) e
/-- The program's purse turned, and the next kind with it: the document's has still to follow. -/
structure Pm (w W : World) (X Y p K kc N : Nat) (ch room left left' : Nat → Nat) (nx nx' q off ca b cb d : Nat) : Prop where
  pu : Pu W p K kc N ch room left' nx'
  rf : Rf W q off b cb N room left
  hd : W.heap[X]? = some (.cells (rv q off ca b cb N d) 31 (0, 0))
  yd : W.heap[Y]? = some (.cells #[.slice none 0 0, .slice none 0 0, .int .i64 0] 31 (0, 0))
  ne : X ≠ Y
  lX : w.heap.size ≤ X
  lY : w.heap.size ≤ Y
  lp : w.heap.size ≤ p
  lc : ∀ i, i < N → w.heap.size ≤ ch i
  rm : Rms w q off N room
  dn : d = nx % N
  bel : Below w.heap.size w W
theorem Pl.prog (h : Pl w W X Y p K kc N ch room left nx q off ca b cb d) (t : PuTo W W' p K kc N ch room left' nx') : Pm w W' X Y p K kc N ch room left left' nx nx' q off ca b cb d := by
  have hb := bel_kp h.bel t.kp h.lp h.lc
  obtain ⟨_, eb⟩ := h.rf.s.ty
  exact ⟨t.pu, ⟨h.rm.below hb, h.rf.s.same (t.kp.block b h.rf.s.lt (h.pu.away eb (by decide)))⟩, (t.kp.block X (lt_of_block h.hd) (h.pu.away h.hd (by decide))).trans h.hd, (t.kp.block Y (lt_of_block h.yd) (h.pu.away h.yd (by decide))).trans h.yd, h.ne, h.lX, h.lY, h.lp, h.lc, h.rm, h.dn, hb⟩
theorem Pm.done (h : Pm w W X Y p K kc N ch room left left nx nx q off ca b cb d) : Pl w W X Y p K kc N ch room left nx q off ca b cb d := ⟨h.pu, h.rf, h.hd, h.yd, h.ne, h.lX, h.lY, h.lp, h.lc, h.rm, h.dn, h.bel⟩
theorem Pl.mid (h : Pl w W X Y p K kc N ch room left nx q off ca b cb d) : Pm w W X Y p K kc N ch room left left nx nx q off ca b cb d := ⟨h.pu, h.rf, h.hd, h.yd, h.ne, h.lX, h.lY, h.lp, h.lc, h.rm, h.dn, h.bel⟩
theorem Pm.below (h : Pm w W X Y p K kc N ch room left left' nx nx' q off ca b cb d) (hb : Below W.heap.size W W') : Pm w W' X Y p K kc N ch room left left' nx nx' q off ca b cb d :=
  ⟨h.pu.below hb, h.rf.below hb, (hb.block _ (lt_of_block h.hd)).trans h.hd, (hb.block _ (lt_of_block h.yd)).trans h.yd, h.ne, h.lX, h.lY, h.lp, h.lc, h.rm, h.dn, h.bel.trans (hb.mono h.bel.size)⟩
theorem Pl.below (h : Pl w W X Y p K kc N ch room left nx q off ca b cb d) (hb : Below W.heap.size W W') : Pl w W' X Y p K kc N ch room left nx q off ca b cb d := (h.mid.below hb).done
/-- A block that is none of theirs is written. -/
theorem Pm.far (h : Pm w W X Y p K kc N ch room left left' nx nx' q off ca b cb d) {z i : Nat} {u : Value} {x : Array Value} (hz : W.heap[z]? = some (.cells x 40 (0, 0))) (lz : w.heap.size ≤ z) : Pm w (W.setCell ⟨z, i, none⟩ u) X Y p K kc N ch room left left' nx nx' q off ca b cb d := by
  have nz := h.pu.away hz (by decide)
  obtain ⟨_, ek, _⟩ := h.pu.kin
  obtain ⟨_, eb⟩ := h.rf.s.ty
  have hb := h.bel.setCell (p := ⟨z, i, none⟩) lz u
  refine ⟨h.pu.same (hd_far (ne_type h.pu.head hz (by decide))) (hd_far (ne_type ek hz (by decide))) (fun j hj => hd_far (Ne.symm (ne_chan hz (h.pu.chs j hj)))), ⟨h.rm.below hb, h.rf.s.same (hd_far (ne_type eb hz (by decide)))⟩, (hd_far (ne_type h.hd hz (by decide))).trans h.hd, (hd_far (ne_type h.yd hz (by decide))).trans h.yd, h.ne, h.lX, h.lY, h.lp, h.lc, h.rm, h.dn, hb⟩
/-- The document's purse follows, and is in the box. -/
theorem Pm.ref (h : Pm w W X Y p K kc N ch room left left' nx nx' q off ca b cb d) (hb : Below W.heap.size W W') {d' : Nat} (hr : Rf W' q off b' cb' N room left') (hd' : d' = nx' % N) :
    Pl w (((W'.setCell ⟨X, 0, none⟩ (.slice (some ⟨q, off, none⟩) N ca)).setCell ⟨X, 1, none⟩ (.slice (some ⟨b', 0, none⟩) N cb')).setCell ⟨X, 2, none⟩ (.int .i64 (d' : Int))) X Y p K kc N ch room left' nx' q off ca b' cb' d' := by
  have h' := h.below hb
  have hx := h'.hd
  have e : ∀ z, z ≠ X → (((W'.setCell ⟨X, 0, none⟩ (.slice (some ⟨q, off, none⟩) N ca)).setCell ⟨X, 1, none⟩ (.slice (some ⟨b', 0, none⟩) N cb')).setCell ⟨X, 2, none⟩ (.int .i64 (d' : Int))).heap[z]? = W'.heap[z]? :=
    fun z hz => ((hd_far hz).trans (hd_far hz)).trans (hd_far hz)
  obtain ⟨_, ek, _⟩ := h'.pu.kin
  obtain ⟨_, eb⟩ := hr.s.ty
  have hbel := ((h'.bel.setCell (p := ⟨X, 0, none⟩) h.lX (.slice (some ⟨q, off, none⟩) N ca)).setCell (p := ⟨X, 1, none⟩) h.lX (.slice (some ⟨b', 0, none⟩) N cb')).setCell (p := ⟨X, 2, none⟩) h.lX (.int .i64 (d' : Int))
  refine ⟨h'.pu.same (e p (ne_type h'.pu.head hx (by decide))) (e K (ne_type ek hx (by decide))) (fun j hj => e _ (Ne.symm (ne_chan hx (h'.pu.chs j hj)))), ⟨h.rm.below hbel, hr.s.same (e b' (ne_type eb hx (by decide)))⟩, ?_, (e Y (Ne.symm h.ne)).trans h'.yd, h.ne, h.lX, h.lY, h.lp, h.lc, h.rm, hd', hbel⟩
  exact (hd_set (hd_set (hd_set hx))).trans (by simp [rv])
theorem Pm.c0 (h : Pm w W X Y p K kc N ch room left left' nx nx' q off ca b cb d) : W.cell? ⟨X, 0, none⟩ = some (.slice (some ⟨q, off, none⟩) N ca) := by simp [World.cell?, h.hd, rv]
theorem Pm.c1 (h : Pm w W X Y p K kc N ch room left left' nx nx' q off ca b cb d) : W.cell? ⟨X, 1, none⟩ = some (.slice (some ⟨b, 0, none⟩) N cb) := by simp [World.cell?, h.hd, rv]
theorem Pm.c2 (h : Pm w W X Y p K kc N ch room left left' nx nx' q off ca b cb d) : W.cell? ⟨X, 2, none⟩ = some (.int .i64 (d : Int)) := by simp [World.cell?, h.hd, rv]
theorem Pm.fx (h : Pm w W X Y p K kc N ch room left left' nx nx' q off ca b cb d) (i : Nat) : W.frozen? ⟨X, i, none⟩ = false := by simp [World.frozen?, h.hd]
theorem Pm.d0 (h : Pm w W X Y p K kc N ch room left left' nx nx' q off ca b cb d) : W.cell? ⟨Y, 0, none⟩ = some (.slice none 0 0) := by simp [World.cell?, h.yd]
theorem Pm.d1 (h : Pm w W X Y p K kc N ch room left left' nx nx' q off ca b cb d) : W.cell? ⟨Y, 1, none⟩ = some (.slice none 0 0) := by simp [World.cell?, h.yd]
theorem Pm.d2 (h : Pm w W X Y p K kc N ch room left left' nx nx' q off ca b cb d) : W.cell? ⟨Y, 2, none⟩ = some (.int .i64 0) := by simp [World.cell?, h.yd]
theorem Pm.fy (h : Pm w W X Y p K kc N ch room left left' nx nx' q off ca b cb d) (i : Nat) : W.frozen? ⟨Y, i, none⟩ = false := by simp [World.frozen?, h.yd]
end

/-- An act, and acts behind a slice. -/
structure ActD where
  d : Int
  k : Int
  n : Int
def Acts (w : World) (al : Option Addr) (l : List ActD) : Prop :=
  ∀ k (h : k < l.length), ∃ q off, al = some ⟨q, off, none⟩ ∧ q < w.heap.size ∧ w.cell? ⟨q, off + k * 3, none⟩ = some (.int .i64 l[k].d) ∧ w.cell? ⟨q, off + k * 3 + 1, none⟩ = some (.int .i64 l[k].k) ∧ w.cell? ⟨q, off + k * 3 + 2, none⟩ = some (.int .i64 l[k].n)
theorem Acts.below {w W : World} {al : Option Addr} {l : List ActD} (h : Acts w al l) (hb : Below w.heap.size w W) : Acts W al l := by
  intro k hk
  obtain ⟨q, off, e, hq, c0, c1, c2⟩ := h k hk
  have hc : ∀ i, W.cell? ⟨q, i, none⟩ = w.cell? ⟨q, i, none⟩ := fun i => hb.cell (p := ⟨q, i, none⟩) hq
  exact ⟨q, off, e, Nat.lt_of_lt_of_le hq hb.size, (hc _).trans c0, (hc _).trans c1, (hc _).trans c2⟩
end Go.Proofs.Ytjijikkcpnojcaa
