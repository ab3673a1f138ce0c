/- The program's heap and the document's side by side; acts. -/
import Derived.Test.YtidhnmooloedmaaWalkF
import Derived.Test.YtidhnmooloedmaaWalkG
import Derived.Test.YtidhnmooloedmaaWalkU
import Derived.Test.YtidhnmooloedmaaWalkV
set_option linter.unusedVariables false
set_option linter.unusedSimpArgs false
namespace Go.Proofs.Ytidhnmooloedmaa
open Go.RowKit

/-- A heap of the program's, one of the document's in a box. -/
structure Sd (w W : World) (X B S P O c n a ca b cb : Nat) (s t : HS) : Prop where
  hp : Hp W B S P O c n s
  rf : Rf W a ca b cb n (inB t.pl) t.sc
  hd : W.heap[X]? = some (.cells (rv a ca b cb n t.st) 27 (0, 0))
  bS : b ≠ S
  bP : b ≠ P
  bO : b ≠ O
  lX : w.heap.size ≤ X
  lB : w.heap.size ≤ B
  lS : w.heap.size ≤ S
  lP : w.heap.size ≤ P
  lO : w.heap.size ≤ O
  bel : Below w.heap.size w W

theorem ne_type {W : World} {p q : Nat} {x y : Array Value} {t u : TypeId} (h1 : W.heap[p]? = some (.cells x t (0, 0))) (h2 : W.heap[q]? = some (.cells y u (0, 0))) (h : t ≠ u) : p ≠ q := by
  intro e
  subst e
  rw [h1] at h2
  injection h2 with h2
  injection h2 with _ h3
  exact h h3
theorem Blk.ty {w : World} {b m c : Nat} {f : Nat → Int} (h : Blk w b m c f) : ∃ cur, w.heap[b]? = some (.cells cur 3 (0, 0)) := by obtain ⟨cur, h, _⟩ := h; exact ⟨cur, h⟩
theorem Blb.ty {w : World} {b m c : Nat} {f : Nat → Bool} (h : Blb w b m c f) : ∃ cur, w.heap[b]? = some (.cells cur 4 (0, 0)) := by obtain ⟨cur, h, _⟩ := h; exact ⟨cur, h⟩
theorem Hp.off {W : World} {B S P O c n : Nat} {s : HS} (h : Hp W B S P O c n s) {q : Nat} {y : Array Value} {u : TypeId} (hq : W.heap[q]? = some (.cells y u (0, 0))) (h3 : u ≠ 3) (h46 : u ≠ 46) : ¬ Of B S P O q := by
  obtain ⟨c1, e1⟩ := h.rs.ty
  obtain ⟨c2, e2⟩ := h.rp.ty
  obtain ⟨c3, e3⟩ := h.ro.ty
  rintro (e | e | e | e)
  · exact ne_type hq h.head h46 e
  · exact ne_type hq e1 h3 e
  · exact ne_type hq e2 h3 e
  · exact ne_type hq e3 h3 e

section
variable {w W W' : World} {X B S P O c n a ca b cb : Nat} {s s' t t' : HS}
theorem Sd.offX (h : Sd w W X B S P O c n a ca b cb s t) : ¬ Of B S P O X := h.hp.off h.hd (by decide) (by decide)
theorem Sd.offa (h : Sd w W X B S P O c n a ca b cb s t) : ¬ Of B S P O a := by obtain ⟨_, e⟩ := h.rf.i.ty; exact h.hp.off e (by decide) (by decide)
theorem Sd.offb (h : Sd w W X B S P O c n a ca b cb s t) : ¬ Of B S P O b := by
  rintro (e | e | e | e)
  · obtain ⟨_, e1⟩ := h.rf.s.ty
    exact ne_type e1 h.hp.head (by decide) e
  · exact h.bS e
  · exact h.bP e
  · exact h.bO e
theorem Sd.belK (h : Sd w W X B S P O c n a ca b cb s t) (k : Kp (Of B S P O) W W') : Below w.heap.size w W' :=
  ⟨k.os.trans h.bel.os, k.tape.trans h.bel.tape, k.output.trans h.bel.output, Nat.le_trans h.bel.size k.size, fun i hi => (k.block i (Nat.lt_of_lt_of_le hi h.bel.size) (by
    have h1 := h.lB
    have h2 := h.lS
    have h3 := h.lP
    have h4 := h.lO
    unfold Of; omega)).trans (h.bel.block i hi)⟩
/-- The program's heap turned. -/
theorem Sd.prog (h : Sd w W X B S P O c n a ca b cb s t) {O' c' : Nat} (hp : Hp W' B S P O' c' n s') (k : Kp (Of B S P O) W W') (hO : O' = O ∨ W.heap.size ≤ O') : Sd w W' X B S P O' c' n a ca b cb s' t := by
  have la := h.rf.i.lt
  have lb := h.rf.s.lt
  have lx := lt_of_block h.hd
  have hs := h.bel.size
  have lO := h.lO
  have bO := h.bO
  exact ⟨hp, ⟨h.rf.i.same (k.block a la h.offa), h.rf.s.same (k.block b lb h.offb)⟩, (k.block X lx h.offX).trans h.hd, h.bS, h.bP, by omega, h.lX, h.lB, h.lS, h.lP, by omega, h.belK k⟩
/-- Only memory was made. -/
theorem Sd.below (h : Sd w W X B S P O c n a ca b cb s t) (hb : Below W.heap.size W W') : Sd w W' X B S P O c n a ca b cb s t :=
  ⟨h.hp.below hb, h.rf.below hb, (hb.block _ (lt_of_block h.hd)).trans h.hd, h.bS, h.bP, h.bO, h.lX, h.lB, h.lS, h.lP, h.lO, h.bel.trans (hb.mono h.bel.size)⟩
theorem Sd.drewN (h : Sd w W X B S P O c n a ca b cb s t) (m : Nat) : Sd w (W.drewN m) X B S P O c n a ca b cb s t := h.below (below_drewN (Below.refl _ _) m)
/-- The document's heap turned, and is in the box. -/
theorem Sd.ref (h : Sd w W X B S P O c n a ca b cb s t) (hb : Below W.heap.size W W') {a' ca' b' cb' : Nat} (hr : Rf W' a' ca' b' cb' n (inB t'.pl) t'.sc) (hq : b' = b ∨ W.heap.size ≤ b') :
    Sd w (((W'.setCell ⟨X, 0, none⟩ (.slice (some ⟨a', 0, none⟩) (n + 1) ca')).setCell ⟨X, 1, none⟩ (.slice (some ⟨b', 0, none⟩) (n + 1) cb')).setCell ⟨X, 2, none⟩ (.int .i64 t'.st)) X B S P O c n a' ca' b' cb' s t' := by
  have h' := h.below hb
  have hx := h'.hd
  have nX := h'.offX
  have e : ∀ q, q ≠ X → (((W'.setCell ⟨X, 0, none⟩ (.slice (some ⟨a', 0, none⟩) (n + 1) ca')).setCell ⟨X, 1, none⟩ (.slice (some ⟨b', 0, none⟩) (n + 1) cb')).setCell ⟨X, 2, none⟩ (.int .i64 t'.st)).heap[q]? = W'.heap[q]? :=
    fun q hq => ((hd_far hq).trans (hd_far hq)).trans (hd_far hq)
  obtain ⟨_, ea⟩ := hr.i.ty
  obtain ⟨_, eb⟩ := hr.s.ty
  obtain ⟨l1, l2, l3, l4⟩ := h.hp.lt
  have bS := h.bS
  have bP := h.bP
  have bO := h.bO
  unfold Of at nX
  refine ⟨h'.hp.same (e B (by omega)) (e S (by omega)) (e P (by omega)) (e O (by omega)), ⟨hr.i.same (e a' (ne_type ea hx (by decide))), hr.s.same (e b' (ne_type eb hx (by decide)))⟩, ?_, by omega, by omega, by omega, h.lX, h.lB, h.lS, h.lP, h.lO, ((h'.bel.setCell h.lX _).setCell h.lX _).setCell h.lX _⟩
  have := hd_set (i := 2) (v := .int .i64 t'.st) (hd_set (i := 1) (v := .slice (some ⟨b', 0, none⟩) (n + 1) cb') (hd_set (i := 0) (v := .slice (some ⟨a', 0, none⟩) (n + 1) ca') hx))
  rw [this]; simp [rv]
theorem Sd.c0 (h : Sd w W X B S P O c n a ca b cb s t) : W.cell? ⟨X, 0, none⟩ = some (.slice (some ⟨a, 0, none⟩) (n + 1) ca) := by simp [World.cell?, h.hd, rv]
theorem Sd.c1 (h : Sd w W X B S P O c n a ca b cb s t) : W.cell? ⟨X, 1, none⟩ = some (.slice (some ⟨b, 0, none⟩) (n + 1) cb) := by simp [World.cell?, h.hd, rv]
theorem Sd.c2 (h : Sd w W X B S P O c n a ca b cb s t) : W.cell? ⟨X, 2, none⟩ = some (.int .i64 t.st) := by simp [World.cell?, h.hd, rv]
theorem Sd.fx (h : Sd w W X B S P O c n a ca b cb s t) (i : Nat) : W.frozen? ⟨X, i, none⟩ = false := by simp [World.frozen?, h.hd]
/-- The document's heap is that of another state with the same scores, step and in it. -/
theorem Sd.same (h : Sd w W X B S P O c n a ca b cb s t) (h1 : t'.st = t.st) (h2 : ∀ v, v ≤ n → t'.sc v = t.sc v) (h3 : ∀ v, v ≤ n → inB t'.pl v = inB t.pl v) : Sd w W X B S P O c n a ca b cb s t' :=
  ⟨h.hp, h.rf.congr h3 h2, by rw [h1]; exact h.hd, h.bS, h.bP, h.bO, h.lX, h.lB, h.lS, h.lP, h.lO, h.bel⟩
end

/-- An act, and acts behind a slice. -/
structure ActD where
  d : Int
  v : Int
  n : Int
def Acts (w : World) (al : Option Addr) (l : List ActD) : Prop :=
  ∀ k (h : k < l.length), ∃ q off, al = some ⟨q, off, none⟩ ∧ q < w.heap.size ∧ w.cell? ⟨q, off + k * 3, none⟩ = some (.int .i64 l[k].d) ∧ w.cell? ⟨q, off + k * 3 + 1, none⟩ = some (.int .i64 l[k].v) ∧ w.cell? ⟨q, off + k * 3 + 2, none⟩ = some (.int .i64 l[k].n)
theorem Acts.below {w W : World} {al : Option Addr} {l : List ActD} (h : Acts w al l) (hb : Below w.heap.size w W) : Acts W al l := by
  intro k hk
  obtain ⟨q, off, e, hq, c0, c1, c2⟩ := h k hk
  have hc : ∀ i, W.cell? ⟨q, i, none⟩ = w.cell? ⟨q, i, none⟩ := fun i => hb.cell (p := ⟨q, i, none⟩) hq
  exact ⟨q, off, e, Nat.lt_of_lt_of_le hq hb.size, (hc _).trans c0, (hc _).trans c1, (hc _).trans c2⟩

/-- What the document says of a bump, and a decay, is what the program leaves. -/
theorem bump_doc {n : Nat} {s t : HS} (hz : Sz n s) {v : Nat} (h2 : v ≤ n) (hl : Like n (s.bumped v) t) : t.st = stT (mustF (upd s.sc v (s.sc v + s.st)) s.st (n + 1)) s.st ∧ (∀ u, u ≤ n → t.sc u = scT (mustF (upd s.sc v (s.sc v + s.st)) s.st (n + 1)) (upd s.sc v (s.sc v + s.st)) u) ∧ ∀ u, u ≤ n → inB t.pl u = inB s.pl u := by
  have hm : mustF (upd s.sc v (s.sc v + s.st)) s.st (n + 1) = decide (s.sc v + s.st > 1099511627776) := must_bmp hz h2
  rw [hm]
  have hw := hl.wfcnt
  unfold HS.bumped at hl hw
  by_cases hb : s.sc v + s.st > 1099511627776
  · rw [if_pos hb] at hl hw
    rw [decide_eq_true hb]
    exact ⟨hl.st, fun u _ => by rw [hl.sc]; rfl, fun u hu => hw u hu⟩
  · rw [if_neg hb] at hl hw
    rw [decide_eq_false hb]
    exact ⟨hl.st, fun u _ => by rw [hl.sc]; rfl, fun u hu => hw u hu⟩
theorem decay_doc {n : Nat} {s t : HS} (hz : Sz n s) (hl : Like n s.decayed t) : t.st = stT (mustF s.sc (s.st + (s.st / 16 + 1)) (n + 1)) (s.st + (s.st / 16 + 1)) ∧ (∀ u, u ≤ n → t.sc u = scT (mustF s.sc (s.st + (s.st / 16 + 1)) (n + 1)) s.sc u) ∧ ∀ u, u ≤ n → inB t.pl u = inB s.pl u := by
  have hm : mustF s.sc (s.st + (s.st / 16 + 1)) (n + 1) = decide (s.st + (s.st / 16 + 1) > 1099511627776) := must_dec hz
  rw [hm]
  have hw := hl.wfcnt
  unfold HS.decayed at hl hw
  by_cases hb : s.st + (s.st / 16 + 1) > 1099511627776
  · rw [if_pos hb] at hl hw
    rw [decide_eq_true hb]
    exact ⟨hl.st, fun u _ => by rw [hl.sc]; rfl, fun u hu => hw u hu⟩
  · rw [if_neg hb] at hl hw
    rw [decide_eq_false hb]
    exact ⟨hl.st, fun u _ => by rw [hl.sc]; rfl, fun u hu => hw u hu⟩
/-- A new heap is at rest. -/
theorem mk2_full (n : Nat) : Full n (HS.mk2 n n) := by
  have h := new_full n
  have ep : ∀ v, 1 ≤ v → v ≤ n → (HS.mk2 n n).pl v = (HS.new n).pl v := fun v a b => by show (if 1 ≤ v ∧ v ≤ n then (v : Int) - 1 else 0) = (v : Int) - 1; rw [if_pos ⟨a, b⟩]
  have eo : ∀ i, i < n → (HS.mk2 n n).od i = (HS.new n).od i := fun i hi => by show (if i < n then i + 1 else 0) = i + 1; rw [if_pos hi]
  refine ⟨⟨?_, ?_, ?_⟩, ?_, ⟨h.sz.z, h.sz.sc, h.sz.st⟩⟩
  · intro i hi
    have hi' : i < n := hi
    obtain ⟨a, b, c⟩ := h.wf.at' i hi'
    rw [eo i hi', ep _ a b]; exact ⟨a, b, c⟩
  · intro v a b
    rw [ep v a b]
    rcases h.wf.back v a b with x | ⟨i, hi, x, y⟩
    · exact .inl x
    · exact .inr ⟨i, hi, x, by rw [eo i hi]; exact y⟩
  · show n = cnt (HS.mk2 n n).pl n
    rw [cnt_congr (q := (HS.new n).pl) (fun v a b => by rw [ep v a b])]
    exact h.wf.cnt
  · intro j h0 hk hm
    have hk' : j < n := hk
    have := h.hp j h0 hk' hm
    have hp := par_lt h0
    unfold ok at *
    rw [eo j hk', eo _ (by omega)]; exact this
theorem mk2_in {n v : Nat} (hv : v ≤ n) : inB (HS.mk2 n n).pl v = decide (v ≠ 0) := by
  show (decide (v ≠ 0) && decide ((if 1 ≤ v ∧ v ≤ n then (v : Int) - 1 else 0) ≠ -1)) = _
  by_cases e : v = 0
  · simp [e]
  · rw [if_pos (by omega)]
    have : decide ((v : Int) - 1 ≠ -1) = true := by simp; omega
    rw [this]; simp
end Go.Proofs.Ytidhnmooloedmaa
