/- Plain mathematics of a heap: what is best, and what each call leaves. -/
import Derived.Test.YtidhnmooloedmaaPlain
set_option linter.unusedVariables false
namespace Go.Proofs.Ytidhnmooloedmaa

/-- Whether one is in it. -/
def inB (pl : Nat → Int) (v : Nat) : Bool := decide (v ≠ 0) && decide (pl v ≠ -1)
def bestF (f : Nat → Bool) (sc : Nat → Int) : Nat → Nat
  | 0 => 0
  | m + 1 => if f (m + 1) && (decide (bestF f sc m = 0) || decide (sc (m + 1) > sc (bestF f sc m))) then m + 1 else bestF f sc m
def lenF (f : Nat → Bool) : Nat → Nat
  | 0 => 0
  | m + 1 => lenF f m + if f (m + 1) then 1 else 0

theorem lenF_cnt (pl : Nat → Int) (n : Nat) : lenF (inB pl) n = cnt pl n := by
  induction n with
  | zero => rfl
  | succ m ih =>
    simp only [lenF, cnt, ih, inB]
    by_cases e : pl (m + 1) = -1 <;> simp [e]
theorem lenF_le (f : Nat → Bool) (n : Nat) : lenF f n ≤ n := by
  induction n with
  | zero => simp [lenF]
  | succ m ih => simp only [lenF]; split <;> omega

theorem bestF_le (f : Nat → Bool) (sc : Nat → Int) (n : Nat) : bestF f sc n ≤ n := by
  induction n with
  | zero => simp [bestF]
  | succ m ih => simp only [bestF]; split <;> omega
theorem bestF_in (f : Nat → Bool) (sc : Nat → Int) (n : Nat) (h : bestF f sc n ≠ 0) : f (bestF f sc n) = true := by
  induction n with
  | zero => simp [bestF] at h
  | succ m ih =>
    simp only [bestF] at h ⊢
    split
    · rename_i h'; simp at h'; exact h'.1
    · rename_i h'; rw [if_neg h'] at h; exact ih h
theorem bestF_best (f : Nat → Bool) (sc : Nat → Int) (n : Nat) : ∀ v, 1 ≤ v → v ≤ n → f v = true → bestF f sc n ≠ 0 ∧ ¬ bet sc v (bestF f sc n) := by
  induction n with
  | zero => intro v a b; omega
  | succ m ih =>
    intro v a b hv
    have hl := bestF_le f sc m
    simp only [bestF]
    by_cases hc : (f (m + 1) && (decide (bestF f sc m = 0) || decide (sc (m + 1) > sc (bestF f sc m)))) = true
    · rw [if_pos hc]
      simp at hc
      refine ⟨by omega, ?_⟩
      by_cases e : v = m + 1
      · subst e; unfold bet; omega
      · obtain ⟨h1, h2⟩ := ih v a (by omega) hv
        rcases hc.2 with x | x
        · exact absurd x h1
        · unfold bet at *; omega
    · rw [if_neg hc]
      simp at hc
      by_cases e : v = m + 1
      · subst e
        have := hc hv
        refine ⟨this.1, ?_⟩
        unfold bet; omega
      · exact ih v a (by omega) hv

structure Sz (n : Nat) (s : HS) : Prop where
  z : s.sc 0 = 0
  sc : ∀ v, v ≤ n → 0 ≤ s.sc v ∧ s.sc v ≤ 1099511627776
  st : 1 ≤ s.st ∧ s.st ≤ 1099511627776
structure Sz2 (n : Nat) (s : HS) : Prop where
  z : s.sc 0 = 0
  sc : ∀ v, v ≤ n → 0 ≤ s.sc v ∧ s.sc v ≤ 2199023255552
  st : 1 ≤ s.st ∧ s.st ≤ 2199023255552
theorem Sz.two {n : Nat} {s : HS} (h : Sz n s) : Sz2 n s := ⟨h.z, fun v a => by have := h.sc v a; omega, by have := h.st; omega⟩

/-- A heap at rest. -/
structure Full (n : Nat) (s : HS) : Prop where
  wf : WF n s
  hp : Hpf s 0
  sz : Sz n s

theorem inB_od {n : Nat} {s : HS} (h : WF n s) {i : Nat} (hi : i < s.k) : inB s.pl (s.od i) = true := by
  obtain ⟨a, b, c⟩ := h.at' i hi
  simp [inB, c]; omega

theorem best_is {n : Nat} {s : HS} (h : WF n s) (hp : Hpf s 0) : bestF (inB s.pl) s.sc n = if s.k = 0 then 0 else s.od 0 := by
  by_cases hk : s.k = 0
  · rw [if_pos hk]
    apply Classical.byContradiction
    intro e
    have h1 := bestF_in (inB s.pl) s.sc n e
    have hl := bestF_le (inB s.pl) s.sc n
    simp [inB] at h1
    rcases h.back _ (by omega) hl with x | ⟨i, x, _⟩
    · exact h1.2 x
    · omega
  · rw [if_neg hk]
    obtain ⟨a, b, c⟩ := h.at' 0 (by omega)
    obtain ⟨e1, e2⟩ := bestF_best (inB s.pl) s.sc n (s.od 0) a b (inB_od h (by omega))
    have h1 := bestF_in (inB s.pl) s.sc n e1
    have hl := bestF_le (inB s.pl) s.sc n
    simp [inB] at h1
    rcases h.back _ (by omega) hl with x | ⟨i, hi, _, hod⟩
    · exact absurd x h1.2
    · have := root_best hp i hi
      rw [hod] at this
      unfold bet at *; omega

/-- The scores, and the step, divided. -/
def HS.div (s : HS) : HS := { s with sc := fun v => s.sc v / 1048576, st := max (s.st / 1048576) 1 }
theorem div_wf {n : Nat} {s : HS} (h : WF n s) : WF n s.div := ⟨h.at', h.back, h.cnt⟩
theorem div_sz {n : Nat} {s : HS} (h : Sz2 n s) : Sz n s.div := by
  refine ⟨?_, ?_, ?_⟩
  · show s.sc 0 / 1048576 = 0; rw [h.z]; rfl
  · intro v a; have := h.sc v a; show 0 ≤ s.sc v / 1048576 ∧ s.sc v / 1048576 ≤ _; omega
  · have := h.st; show 1 ≤ max (s.st / 1048576) 1 ∧ max (s.st / 1048576) 1 ≤ _; omega
theorem Like.wfcnt {n : Nat} {s t : HS} (h : Like n s t) (v : Nat) (a : v ≤ n) : inB t.pl v = inB s.pl v := by
  by_cases e : v = 0
  · subst e; simp [inB]
  · have := h.out v (by omega) a
    by_cases e2 : s.pl v = -1
    · simp [inB, e2, this.2 e2]
    · have e3 : t.pl v ≠ -1 := fun x => e2 (this.1 x)
      simp [inB, e2, e3]
theorem Like.sz {n : Nat} {s t : HS} (h : Like n s t) (g : Sz n s) : Sz n t := ⟨by rw [h.sc]; exact g.z, fun v a => by rw [h.sc]; exact g.sc v a, by rw [h.st]; exact g.st⟩
theorem Like.sz2 {n : Nat} {s t : HS} (h : Like n s t) (g : Sz2 n s) : Sz2 n t := ⟨by rw [h.sc]; exact g.z, fun v a => by rw [h.sc]; exact g.sc v a, by rw [h.st]; exact g.st⟩
theorem Hpf_half {s : HS} : Hpf s (s.k / 2) := by
  intro j h0 hk hm
  unfold par at hm; omega

/-- The best one is taken out: the last one takes its place. -/
def HS.cut (s : HS) : HS := { s with pl := upd s.pl (s.od 0) (-1), k := s.k - 1 }
theorem cut_wf0 {n : Nat} {s : HS} (h : WF n s) (hk : s.k = 1) : WF n s.cut ∧ Hpf s.cut 0 := by
  obtain ⟨a, b, c⟩ := h.at' 0 (by omega)
  have hc := cnt_out (p := s.pl) a b (by rw [c]; omega)
  have ek : s.cut.k = 0 := by show s.k - 1 = 0; omega
  refine ⟨⟨fun i hi => by omega, ?_, ?_⟩, fun j h0 hk' _ => by omega⟩
  · intro v h1 h2
    left
    show upd s.pl (s.od 0) (-1) v = -1
    by_cases e : v = s.od 0
    · rw [e, upd_same]
    · rw [upd_other e]
      rcases h.back v h1 h2 with x | ⟨i, hi, _, ho⟩
      · exact x
      · have : i = 0 := by omega
        subst this; exact absurd ho.symm e
  · show s.k - 1 = cnt (upd s.pl (s.od 0) (-1)) n
    rw [h.cnt]; omega
theorem cut_wf1 {n : Nat} {s : HS} (h : WF n s) (hp : Hpf s 0) (hk : 1 < s.k) : WF n (s.cut.put 0 (s.od (s.k - 1))) ∧ HpS (s.cut.put 0 (s.od (s.k - 1))) 0 0 := by
  obtain ⟨a, b, c⟩ := h.at' 0 (by omega)
  obtain ⟨la, lb, lc⟩ := h.at' (s.k - 1) (by omega)
  have hne : s.od (s.k - 1) ≠ s.od 0 := fun e => by have := h.inj (i := s.k - 1) (j := 0) (by omega) (by omega) e; omega
  have hc := cnt_out (p := s.pl) a b (by rw [c]; omega)
  have ho : ∀ x, 1 ≤ x → x ≤ n → (upd (upd s.pl (s.od 0) (-1)) (s.od (s.k - 1)) (0 : Int) x = -1 ↔ upd s.pl (s.od 0) (-1) x = -1) := by
    intro x h1 h2
    by_cases e : x = s.od (s.k - 1)
    · subst e; rw [upd_same, upd_other hne, lc]; omega
    · rw [upd_other e]
  refine ⟨⟨?_, ?_, ?_⟩, ?_, ?_⟩
  · intro i hi
    have hi' : i < s.k - 1 := hi
    show 1 ≤ upd s.od 0 (s.od (s.k - 1)) i ∧ upd s.od 0 (s.od (s.k - 1)) i ≤ n ∧ upd (upd s.pl (s.od 0) (-1)) (s.od (s.k - 1)) (0 : Int) (upd s.od 0 (s.od (s.k - 1)) i) = i
    by_cases e : i = 0
    · subst e; rw [upd_same, upd_same]; exact ⟨la, lb, rfl⟩
    · rw [upd_other e]
      obtain ⟨x, y, z⟩ := h.at' i (by omega)
      refine ⟨x, y, ?_⟩
      rw [upd_other (fun e2 => by have := h.inj (i := i) (j := s.k - 1) (by omega) (by omega) e2; omega), upd_other (fun e2 => e (h.inj (i := i) (j := 0) (by omega) (by omega) e2)), z]
  · intro v h1 h2
    show upd (upd s.pl (s.od 0) (-1)) (s.od (s.k - 1)) (0 : Int) v = -1 ∨ ∃ i, i < s.k - 1 ∧ upd (upd s.pl (s.od 0) (-1)) (s.od (s.k - 1)) (0 : Int) v = (i : Int) ∧ upd s.od 0 (s.od (s.k - 1)) i = v
    by_cases e : v = s.od (s.k - 1)
    · subst e; exact .inr ⟨0, by omega, upd_same _ _ _, upd_same _ _ _⟩
    · rw [upd_other e]
      by_cases e2 : v = s.od 0
      · subst e2; exact .inl (upd_same _ _ _)
      · rw [upd_other e2]
        rcases h.back v h1 h2 with x | ⟨i, hi, hx, hy⟩
        · exact .inl x
        · have i0 : i ≠ 0 := by intro x; rw [x] at hy; exact e2 hy.symm
          have i1 : i ≠ s.k - 1 := by intro x; rw [x] at hy; exact e hy.symm
          exact .inr ⟨i, by omega, hx, by rw [upd_other i0, hy]⟩
  · show s.k - 1 = cnt (upd (upd s.pl (s.od 0) (-1)) (s.od (s.k - 1)) (0 : Int)) n
    rw [cnt_congr ho, h.cnt]; omega
  · intro j h0 hk' _ hpj
    have hk'' : j < s.k - 1 := hk'
    unfold ok
    show ¬ bet s.sc (upd s.od 0 (s.od (s.k - 1)) j) (upd s.od 0 (s.od (s.k - 1)) (par j))
    rw [upd_other (by omega), upd_other hpj]
    exact hp j h0 (by omega) (Nat.zero_le _)
  · intro h0; omega
theorem cut_in {n : Nat} {s : HS} (h : WF n s) (hk : 0 < s.k) (v : Nat) (hv : v ≤ n) : inB s.cut.pl v = upd (inB s.pl) (s.od 0) false v := by
  show inB (upd s.pl (s.od 0) (-1)) v = _
  by_cases e : v = s.od 0
  · subst e; rw [upd_same]; simp [inB, upd_same]
  · rw [upd_other e]; simp [inB, upd_other e]
theorem cut_in1 {n : Nat} {s : HS} (h : WF n s) (hk : 1 < s.k) (v : Nat) (hv : v ≤ n) : inB (s.cut.put 0 (s.od (s.k - 1))).pl v = upd (inB s.pl) (s.od 0) false v := by
  rw [← cut_in h (by omega) v hv]
  obtain ⟨la, lb, lc⟩ := h.at' (s.k - 1) (by omega)
  have hne : s.od (s.k - 1) ≠ s.od 0 := fun e => by have := h.inj (i := s.k - 1) (j := 0) (by omega) (by omega) e; omega
  show inB (upd s.cut.pl (s.od (s.k - 1)) (0 : Int)) v = inB s.cut.pl v
  by_cases e : v = s.od (s.k - 1)
  · subst e
    have : s.cut.pl (s.od (s.k - 1)) = ((s.k - 1 : Nat) : Int) := by show upd s.pl (s.od 0) (-1) _ = _; rw [upd_other hne, lc]
    simp only [inB, upd_same, this]
    have h1 : decide ((0 : Int) ≠ -1) = true := by decide
    have h2 : decide (((s.k - 1 : Nat) : Int) ≠ -1) = true := by simp
    rw [h1, h2]
  · simp [inB, upd_other e]

/-- One is pushed that was not in it: it is the last one. -/
def HS.add (s : HS) (v : Nat) : HS := { s with k := s.k + 1, od := upd s.od s.k v, pl := upd s.pl v (s.k : Int) }
theorem add_wf {n : Nat} {s : HS} (h : WF n s) (hp : Hpf s 0) {v : Nat} (h1 : 1 ≤ v) (h2 : v ≤ n) (ho : s.pl v = -1) : WF n (s.add v) ∧ HpR (s.add v) s.k := by
  have hno : ∀ i, i < s.k → s.od i ≠ v := by
    intro i hi e
    have := (h.at' i hi).2.2
    rw [e, ho] at this; omega
  refine ⟨⟨?_, ?_, ?_⟩, ?_, ?_⟩
  · intro i hi
    have hi' : i < s.k + 1 := hi
    show 1 ≤ upd s.od s.k v i ∧ upd s.od s.k v i ≤ n ∧ upd s.pl v (s.k : Int) (upd s.od s.k v i) = i
    by_cases e : i = s.k
    · subst e; rw [upd_same, upd_same]; exact ⟨h1, h2, rfl⟩
    · rw [upd_other e, upd_other (hno i (by omega))]; exact h.at' i (by omega)
  · intro u a b
    show upd s.pl v (s.k : Int) u = -1 ∨ ∃ i, i < s.k + 1 ∧ upd s.pl v (s.k : Int) u = (i : Int) ∧ upd s.od s.k v i = u
    by_cases e : u = v
    · subst e; exact .inr ⟨s.k, by omega, upd_same _ _ _, upd_same _ _ _⟩
    · rw [upd_other e]
      rcases h.back u a b with x | ⟨i, hi, hx, hy⟩
      · exact .inl x
      · exact .inr ⟨i, by omega, hx, by rw [upd_other (by omega), hy]⟩
  · show s.k + 1 = cnt (upd s.pl v (s.k : Int)) n
    rw [cnt_in h1 h2 ho (by omega), ← h.cnt]
  · intro j h0 hk hj
    have hk' : j < s.k + 1 := hk
    have := par_lt h0
    unfold ok
    show ¬ bet s.sc (upd s.od s.k v j) (upd s.od s.k v (par j))
    rw [upd_other hj, upd_other (by omega)]
    exact hp j h0 (by omega) (Nat.zero_le _)
  · intro _ j h0 hk hj
    have hk' : j < s.k + 1 := hk
    have := par_lt h0
    omega
theorem add_in {s : HS} {v : Nat} (h1 : 1 ≤ v) (u : Nat) : inB (s.add v).pl u = upd (inB s.pl) v true u := by
  show inB (upd s.pl v (s.k : Int)) u = _
  by_cases e : u = v
  · subst e
    rw [upd_same]
    simp only [inB, upd_same]
    have : decide ((s.k : Int) ≠ -1) = true := by simp
    rw [this]; simp; omega
  · rw [upd_other e]; simp [inB, upd_other e]
theorem in_in {s : HS} {v : Nat} (h1 : 1 ≤ v) (h : s.pl v ≠ -1) (u : Nat) : inB s.pl u = upd (inB s.pl) v true u := by
  by_cases e : u = v
  · subst e; rw [upd_same]; simp [inB, h]; omega
  · rw [upd_other e]

/-- One is bumped. -/
def HS.bmp (s : HS) (v : Nat) : HS := { s with sc := upd s.sc v (s.sc v + s.st) }
theorem bmp_wf {n : Nat} {s : HS} (h : WF n s) (v : Nat) : WF n (s.bmp v) := ⟨h.at', h.back, h.cnt⟩
theorem bmp_sz {n : Nat} {s : HS} (h : Sz n s) {v : Nat} (h1 : 1 ≤ v) (h2 : v ≤ n) : Sz2 n (s.bmp v) := by
  have a := h.st
  refine ⟨?_, ?_, ?_⟩
  · show upd s.sc v _ 0 = 0; rw [upd_other (by omega)]; exact h.z
  · intro u hu
    show 0 ≤ upd s.sc v (s.sc v + s.st) u ∧ upd s.sc v (s.sc v + s.st) u ≤ _
    by_cases e : u = v
    · subst e; rw [upd_same]; have := h.sc u hu; omega
    · rw [upd_other e]; have := h.sc u hu; omega
  · show 1 ≤ s.st ∧ s.st ≤ _; omega
theorem bmp_sz1 {n : Nat} {s : HS} (h : Sz n s) {v : Nat} (h1 : 1 ≤ v) (h2 : v ≤ n) (hs : ¬ s.sc v + s.st > 1099511627776) : Sz n (s.bmp v) := by
  have a := h.st
  refine ⟨?_, ?_, a⟩
  · show upd s.sc v _ 0 = 0; rw [upd_other (by omega)]; exact h.z
  · intro u hu
    show 0 ≤ upd s.sc v (s.sc v + s.st) u ∧ upd s.sc v (s.sc v + s.st) u ≤ _
    by_cases e : u = v
    · subst e; rw [upd_same]; have := h.sc u hu; omega
    · rw [upd_other e]; have := h.sc u hu; omega
theorem bmp_out {n : Nat} {s : HS} (h : WF n s) (hp : Hpf s 0) {v : Nat} (ho : s.pl v = -1) : Hpf (s.bmp v) 0 := by
  have hno : ∀ i, i < s.k → s.od i ≠ v := by
    intro i hi e
    have := (h.at' i hi).2.2
    rw [e, ho] at this; omega
  intro j h0 hk hm
  have hk' : j < s.k := hk
  have hpl := par_lt h0
  have := hp j h0 hk' hm
  unfold ok bet at *
  show ¬ (upd s.sc v _ (s.od j) > upd s.sc v _ (s.od (par j)) ∨ upd s.sc v _ (s.od j) = upd s.sc v _ (s.od (par j)) ∧ s.od j < s.od (par j))
  rw [upd_other (hno j hk'), upd_other (hno _ (by omega))]
  exact this
theorem bmp_at {n : Nat} {s : HS} (h : WF n s) (hp : Hpf s 0) (hst : 1 ≤ s.st) {v i : Nat} (hi : i < s.k) (ho : s.od i = v) : HpR (s.bmp v) i := by
  have hno : ∀ j, j < s.k → j ≠ i → s.od j ≠ v := fun j hj e x => e (h.inj hj hi (x.trans ho.symm))
  refine ⟨?_, ?_⟩
  · intro j h0 hk hj
    have hk' : j < s.k := hk
    have hpl := par_lt h0
    have := hp j h0 hk' (Nat.zero_le _)
    unfold ok bet at *
    show ¬ (upd s.sc v _ (s.od j) > upd s.sc v _ (s.od (par j)) ∨ upd s.sc v _ (s.od j) = upd s.sc v _ (s.od (par j)) ∧ s.od j < s.od (par j))
    rw [upd_other (hno j hk' hj)]
    by_cases e : par j = i
    · rw [e, ho, upd_same]; rw [e, ho] at this; omega
    · rw [upd_other (hno _ (by omega) e)]; exact this
  · intro hi0 j h0 hk hj
    have hk' : j < s.k := hk
    have hpl := par_lt h0
    have hpi := par_lt hi0
    have h1 := hp j h0 hk' (Nat.zero_le _)
    have h2 := hp i hi0 hi (Nat.zero_le _)
    rw [hj] at h1
    have h3 := nbet_trans h1 h2
    unfold ok bet at *
    show ¬ (upd s.sc v _ (s.od j) > upd s.sc v _ (s.od (par i)) ∨ upd s.sc v _ (s.od j) = upd s.sc v _ (s.od (par i)) ∧ s.od j < s.od (par i))
    rw [upd_other (hno j hk' (by omega)), upd_other (hno _ (by omega) (by omega))]
    exact h3

/-- The step grows. -/
def HS.dec (s : HS) : HS := { s with st := s.st + (s.st / 16 + 1) }
theorem dec_sz {n : Nat} {s : HS} (h : Sz n s) : Sz2 n s.dec := ⟨h.z, h.two.sc, by have := h.st; show 1 ≤ s.st + (s.st / 16 + 1) ∧ s.st + (s.st / 16 + 1) ≤ _; omega⟩
theorem dec_sz1 {n : Nat} {s : HS} (h : Sz n s) (hs : ¬ s.st + (s.st / 16 + 1) > 1099511627776) : Sz n s.dec := ⟨h.z, h.sc, by have := h.st; show 1 ≤ s.st + (s.st / 16 + 1) ∧ s.st + (s.st / 16 + 1) ≤ _; omega⟩

/-- Whether it must be scaled, by the first scores. -/
def mustF (sc : Nat → Int) (st : Int) : Nat → Bool
  | 0 => decide (st > 1099511627776)
  | m + 1 => mustF sc st m || decide (sc m > 1099511627776)
theorem mustF_iff (sc : Nat → Int) (st : Int) (m : Nat) : mustF sc st m = true ↔ st > 1099511627776 ∨ ∃ v, v < m ∧ sc v > 1099511627776 := by
  induction m with
  | zero => simp [mustF]
  | succ m ih =>
    simp only [mustF, Bool.or_eq_true, ih, decide_eq_true_eq]
    constructor
    · rintro ((x | ⟨v, a, b⟩) | x)
      · exact .inl x
      · exact .inr ⟨v, by omega, b⟩
      · exact .inr ⟨m, by omega, x⟩
    · rintro (x | ⟨v, a, b⟩)
      · exact .inl (.inl x)
      · by_cases e : v = m
        · subst e; exact .inr b
        · exact .inl (.inr ⟨v, by omega, b⟩)
theorem must_bmp {n : Nat} {s : HS} (h : Sz n s) {v : Nat} (h2 : v ≤ n) : mustF (s.bmp v).sc (s.bmp v).st (n + 1) = decide (s.sc v + s.st > 1099511627776) := by
  rw [Bool.eq_iff_iff, mustF_iff, decide_eq_true_eq]
  have a := h.st
  show s.st > _ ∨ (∃ u, u < n + 1 ∧ upd s.sc v (s.sc v + s.st) u > _) ↔ _
  constructor
  · rintro (x | ⟨u, x, y⟩)
    · omega
    · by_cases e : u = v
      · subst e; rw [upd_same] at y; exact y
      · rw [upd_other e] at y; have := h.sc u (by omega); omega
  · intro x; exact .inr ⟨v, by omega, by rw [upd_same]; exact x⟩
theorem must_dec {n : Nat} {s : HS} (h : Sz n s) : mustF s.dec.sc s.dec.st (n + 1) = decide (s.st + (s.st / 16 + 1) > 1099511627776) := by
  rw [Bool.eq_iff_iff, mustF_iff, decide_eq_true_eq]
  show s.st + (s.st / 16 + 1) > _ ∨ (∃ u, u < n + 1 ∧ s.sc u > _) ↔ _
  constructor
  · rintro (x | ⟨u, x, y⟩)
    · exact x
    · have := h.sc u (by omega); omega
  · intro x; exact .inl x

/-- Divided if it must be. -/
def scT (b : Bool) (sc : Nat → Int) : Nat → Int := fun v => if b then sc v / 1048576 else sc v
def stT (b : Bool) (st : Int) : Int := if b then max (st / 1048576) 1 else st

/-- A new heap. -/
def HS.new (n : Nat) : HS := { k := n, sc := fun _ => 0, pl := fun v => (v : Int) - 1, od := fun i => i + 1, st := 64 }
theorem cnt_new (n : Nat) : cnt (fun v => (v : Int) - 1) n = n := by
  induction n with
  | zero => rfl
  | succ m ih => simp only [cnt, ih]; rw [if_neg (by omega)]
theorem new_full (n : Nat) : Full n (HS.new n) := by
  refine ⟨⟨?_, ?_, ?_⟩, ?_, ?_⟩
  · intro i hi; have hi' : i < n := hi; show 1 ≤ i + 1 ∧ i + 1 ≤ n ∧ ((i + 1 : Nat) : Int) - 1 = i; omega
  · intro v a b; exact .inr ⟨v - 1, by show v - 1 < n; omega, by show (v : Int) - 1 = _; omega, by show v - 1 + 1 = v; omega⟩
  · exact (cnt_new n).symm
  · intro j h0 hk hm
    have := par_lt h0
    unfold ok bet
    show ¬ ((0 : Int) > 0 ∨ (0 : Int) = 0 ∧ j + 1 < par j + 1)
    omega
  · exact ⟨rfl, fun v _ => ⟨by show (0 : Int) ≤ 0; omega, by show (0 : Int) ≤ _; omega⟩, by show (1 : Int) ≤ 64 ∧ (64 : Int) ≤ _; omega⟩
theorem new_in {n v : Nat} : inB (HS.new n).pl v = decide (v ≠ 0) := by
  show (decide (v ≠ 0) && decide ((v : Int) - 1 ≠ -1)) = _
  by_cases e : v = 0
  · simp [e]
  · have : decide ((v : Int) - 1 ≠ -1) = true := by simp; omega
    rw [this]; simp

end Go.Proofs.Ytidhnmooloedmaa
